/-
  Texts that the claims of this seat share, part 8.
-/
import Derived.Test.YtgjibpgfcbdpgaaB07
import Derived.Test.YtgjibpgfcbdpgaaB04
import Derived.Test.YtgjibpgfcbdpgaaB05
set_option linter.unusedVariables false
set_option linter.unusedSimpArgs false
namespace Go.Proofs.Ytgjibpgfcbdpgaa
set_option maxRecDepth 100000
set_option linter.unusedVariables false
set_option linter.unusedSimpArgs false

/-- a node's kids' kids, row by row -/
def sx (l : List Nd) (n y x : Nat) : Nat := kidN l (kidN l n (y / 2 * 2 + x / 2)) (y % 2 * 2 + x % 2)
/-- the kids of a square at a row and a column -/
def sqK (l : List Nd) (n y x : Nat) : Kd := ((sx l n y x : Nat), (sx l n y (x + 1) : Nat), (sx l n (y + 1) x : Nat), (sx l n (y + 1) (x + 1) : Nat))
theorem kd_sqK (l : List Nd) (n y x : Nat) {j : Nat} (hj : j < 4) : kd (sqK l n y x) j = ((sx l n (y + j / 2) (x + j % 2) : Nat) : Int) := by
  rcases (by omega : j = 0 ∨ j = 1 ∨ j = 2 ∨ j = 3) with rfl | rfl | rfl | rfl <;> rfl
section
variable {l m : List Nd} {room : Int} {e n p : Nat} {S : List (Int × Int)}
theorem sx_is (hr : Right6 l room) (hn : Is l (e + 2) n) {y x : Nat} (hy : y < 4) (hx : x < 4) : Is l e (sx l n y x) := kid_is hr (kid_is hr hn (by omega)) (by omega)
theorem sx_grows (hr : Right6 l room) (hn : Is l (e + 2) n) (g : Grows l m) {y x : Nat} (hy : y < 4) (hx : x < 4) : sx m n y x = sx l n y x := by
  unfold sx
  rw [kidN_grows g hn.lt, kidN_grows g (kid_is hr hn (by omega)).lt]
theorem sqK_grows (hr : Right6 l room) (hn : Is l (e + 2) n) (g : Grows l m) {y x : Nat} (hy : y < 3) (hx : x < 3) : sqK m n y x = sqK l n y x := by
  unfold sqK
  rw [sx_grows hr hn g (by omega) (by omega), sx_grows hr hn g (by omega) (by omega), sx_grows hr hn g (by omega) (by omega), sx_grows hr hn g (by omega) (by omega)]
theorem sq_fit (hr : Right6 l room) (hn : Is l (e + 2) n) (he : e + 2 ≤ 42) {y x : Nat} (hy : y < 3) (hx : x < 3) : Fit4 l (sqK l n y x) := by
  have hall : ∀ j, j < 4 → Is l e (sx l n (y + j / 2) (x + j % 2)) := fun j hj => sx_is hr hn (by omega) (by omega)
  have h0 : (ndAt l (sqK l n y x).1).1 = (e : Int) := by
    show (ndAt l ((sx l n y x : Nat) : Int)).1 = _
    rw [ndAt_nat]
    exact (hall 0 (by decide)).lev
  refine ⟨fun j hj => ?_, by omega⟩
  have hj' := hall j hj
  rw [kd_sqK l n y x hj, h0]
  refine ⟨by omega, by have := hj'.lt; omega, ?_⟩
  rw [ndAt_nat]
  exact hj'.lev
/-- a corner of the nine is a quarter of the node -/
theorem sqK_corner (hr : Right6 l room) (hn : Is l (e + 2) n) {k : Nat} (hk : k < 4) : sqK l n (k / 2 * 2) (k % 2 * 2) = (l.getD (kidN l n k) deadN).2.1 := kd_ext fun j hj => by
  rw [kd_sqK l n _ _ hj, kid_cast hr (kid_is hr hn hk) hj]
  congr 1
  unfold sx
  have e1 : (k / 2 * 2 + j / 2) / 2 * 2 + (k % 2 * 2 + j % 2) / 2 = k := by omega
  have e2 : (k / 2 * 2 + j / 2) % 2 * 2 + (k % 2 * 2 + j % 2) % 2 = j := by omega
  rw [e1, e2]
theorem corner_at (hr : Right6 l room) (hn : Is l (e + 2) n) {k : Nat} (hk : k < 4) : at6 l (sqK l n (k / 2 * 2) (k % 2 * 2)) = some (kidN l n k) := by
  have hi := kid_is hr hn hk
  rw [sqK_corner hr hn hk]
  exact (fits_iff.1 (hr.fits _ (hi.two hr) hi.lt)).first

/-! ### which of a node's cells are alive, by its sixteen -/
theorem div_two (u : Int) (k : Nat) : u / 2 ^ (k + 1) = u / 2 ^ k / 2 := by
  rw [show (2 : Int) ^ (k + 1) = 2 ^ k * 2 from Int.pow_succ .., Int.ediv_ediv_of_nonneg (Int.le_of_lt (pow_pos7 k))]
theorem alive_sx (l : List Nd) (n : Nat) (u : Int × Int) {y x : Nat} (hy : u.2 / 2 ^ e = (y : Int)) (hx : u.1 / 2 ^ e = (x : Int)) (hy4 : y < 4) (hx4 : x < 4) : alive l (e + 2) n u = alive l e (sx l n y x) u := by
  have h1 : q7 (e + 1) u = y / 2 * 2 + x / 2 := by
    unfold q7
    rw [div_two, div_two, hy, hx]
    omega
  have h2 : q7 e u = y % 2 * 2 + x % 2 := by
    unfold q7
    rw [hy, hx]
    omega
  show alive l e (kidN l (kidN l n (q7 (e + 1) u)) (q7 e u)) u = _
  rw [h1, h2]
  rfl
theorem agree_mod (k : Nat) (c : Int × Int) : Agree k c (c.1 % 2 ^ k, c.2 % 2 ^ k) ∧ InSq k (c.1 % 2 ^ k, c.2 % 2 ^ k) := by
  have hp := pow_pos7 k
  have e1 : c.1 % 2 ^ k = c.1 + 2 ^ k * (- (c.1 / 2 ^ k)) := by have := Int.emod_add_mul_ediv c.1 (2 ^ k); rw [Int.mul_neg]; omega
  have e2 : c.2 % 2 ^ k = c.2 + 2 ^ k * (- (c.2 / 2 ^ k)) := by have := Int.emod_add_mul_ediv c.2 (2 ^ k); rw [Int.mul_neg]; omega
  refine ⟨?_, Int.emod_nonneg _ (by omega), Int.emod_lt_of_pos _ hp, Int.emod_nonneg _ (by omega), Int.emod_lt_of_pos _ hp⟩
  rw [e1, e2]
  exact (agree_shift c _ _ k).symm
/-- what is alive need be told within the square alone -/
theorem alive_within {T : List (Int × Int)} {k : Nat} (h : ∀ c, InSq k c → alive m k p c = T.any fun s => agreeB k s c) (c : Int × Int) : alive m k p c = T.any fun s => agreeB k s c := by
  obtain ⟨h1, h2⟩ := agree_mod k c
  rw [alive_agree k p h1, h _ h2]
  congr 1
  funext s
  exact agreeB_right h1.symm
/-- the cells of a set that are in a square about a place, as that one's own -/
def cropL (S : List (Int × Int)) (dx dy : Int) (e : Nat) : List (Int × Int) := (S.map fun c => (c.1 - dx, c.2 - dy)).filter (insideB e)
theorem mem_crop {dx dy : Int} {c : Int × Int} : c ∈ cropL S dx dy e ↔ (c.1 + dx, c.2 + dy) ∈ S ∧ insideB e c = true := by
  unfold cropL
  rw [List.mem_filter, List.mem_map]
  constructor
  · rintro ⟨⟨s, hs, rfl⟩, h⟩
    exact ⟨by simpa using hs, h⟩
  · rintro ⟨h1, h2⟩
    exact ⟨⟨_, h1, Prod.ext (by simp only; omega) (by simp only; omega)⟩, h2⟩
theorem rises_crop (hS : Cel.Rises S) (dx dy : Int) (e : Nat) : Cel.Rises (cropL S dx dy e) := by
  unfold cropL
  refine List.Pairwise.filter _ ?_
  rw [List.pairwise_map]
  refine List.Pairwise.imp ?_ hS
  intro p q hpq
  unfold Cel.lessB at *
  replace hpq := of_decide_eq_true hpq
  exact decide_eq_true (by simp only; omega)
theorem len_crop (S : List (Int × Int)) (dx dy : Int) (e : Nat) : (cropL S dx dy e).length ≤ S.length := by
  unfold cropL
  exact Nat.le_trans (List.length_filter_le _ _) (by simp)
theorem inside_in (he : e ≤ 40) {c : Int × Int} (h : insideB e c = true) : Cel.inB c = true := by
  have h' := of_decide_eq_true h
  have hp : (2 : Int) ^ e ≤ 2 ^ 40 := pow_le7 he
  have e4 : (2 : Int) ^ 40 = 1099511627776 := rfl
  unfold Cel.inB
  exact decide_eq_true (by omega)
theorem crop_right (hS : Cel.rightB S = true) (he : e ≤ 40) (dx dy : Int) : Cel.rightB (cropL S dx dy e) = true := by
  have h3 := (Cel.rightB_iff _).1 hS
  refine (Cel.rightB_iff _).2 ⟨Nat.le_trans (len_crop _ _ _ _) h3.1, fun c hc => inside_in he (mem_crop.1 hc).2, rises_crop h3.2.2 _ _ _⟩
/-- a node whose kids are those of a square within stands for that part of the set -/
theorem Sq.part (h : Sq l room (e + 1) n S) (g : Grows l m) (hm : Right6 m room) (hp : Is m (e + 1) p) {y x : Nat} (hy : y < 3) (hx : x < 3) (hk : (m.getD p deadN).2.1 = sqK l n y x) :
    Sq m room e p (cropL S (((x : Int) - 1) * 2 ^ e) (((y : Int) - 1) * 2 ^ e) e) := by
  have hr := h.right
  refine ⟨hm, hp, by have := h.low; omega, crop_right h.set (by have := h.low; omega) _ _, fun s hs => (mem_crop.1 hs).2, alive_within fun c hc => ?_⟩
  have hP := pow_pos7 e
  have e2 : (2 : Int) ^ (e + 1) = 2 ^ e * 2 := Int.pow_succ _ _
  obtain ⟨c1, c2, c3, c4⟩ := hc
  rw [e2] at c2 c4
  have hcb : ∀ z : Int, 0 ≤ z → z < 2 ^ e * 2 → z / 2 ^ e = 0 ∨ z / 2 ^ e = 1 := fun z h0 h1 => by
    by_cases hz : z < 2 ^ e
    · exact .inl (div_zero h0 hz)
    · exact .inr (div_one hP (by omega) h1)
  obtain ⟨a, ha, ha2⟩ : ∃ a : Nat, c.1 / 2 ^ e = (a : Int) ∧ a < 2 := by
    rcases hcb c.1 c1 c2 with h | h
    · exact ⟨0, h, by decide⟩
    · exact ⟨1, h, by decide⟩
  obtain ⟨b, hb, hb2⟩ : ∃ b : Nat, c.2 / 2 ^ e = (b : Int) ∧ b < 2 := by
    rcases hcb c.2 c3 c4 with h | h
    · exact ⟨0, h, by decide⟩
    · exact ⟨1, h, by decide⟩
  have hq : q7 e c = b * 2 + a := by unfold q7; rw [ha, hb]; omega
  have hkid : kidN m p (q7 e c) = sx l n (y + b) (x + a) := by
    unfold kidN
    rw [hk, kd_sqK l n y x (q7_lt e c), hq, Int.toNat_natCast, show (b * 2 + a) / 2 = b by omega, show (b * 2 + a) % 2 = a by omega]
  obtain ⟨u, hu⟩ : ∃ u : Int × Int, u = (c.1 + 2 ^ e * (x : Int), c.2 + 2 ^ e * (y : Int)) := ⟨_, rfl⟩
  have hu1 : u.1 / 2 ^ e = ((x + a : Nat) : Int) := by rw [hu]; simp only; rw [Int.add_mul_ediv_left _ _ (by omega), ha]; omega
  have hu2 : u.2 / 2 ^ e = ((y + b : Nat) : Int) := by rw [hu]; simp only; rw [Int.add_mul_ediv_left _ _ (by omega), hb]; omega
  have hag : Agree e u c := by rw [hu]; exact agree_shift c _ _ e
  have hal : Go.Proofs.Ytgjibpgfcbdpgaa.alive m (e + 1) p c = Go.Proofs.Ytgjibpgfcbdpgaa.alive l (e + 1 + 1) n u := by
    show Go.Proofs.Ytgjibpgfcbdpgaa.alive m e (kidN m p (q7 e c)) c = _
    rw [hkid, alive_grows hr g c e _ (sx_is hr h.is (by omega) (by omega)), ← alive_agree e _ hag]
    exact (alive_sx l n u hu2 hu1 (by omega) (by omega)).symm
  rw [hal, h.alive u, Bool.eq_iff_iff, List.any_eq_true, List.any_eq_true]
  have e4 : (2 : Int) ^ (e + 1 + 1) = 2 ^ e * 4 := by rw [Int.pow_succ, e2]; omega
  have hmulx : (2 : Int) ^ e * (x : Int) ≤ 2 ^ e * 2 := Int.mul_le_mul_of_nonneg_left (by omega) (by omega)
  have hmuly : (2 : Int) ^ e * (y : Int) ≤ 2 ^ e * 2 := Int.mul_le_mul_of_nonneg_left (by omega) (by omega)
  have hmx0 : 0 ≤ (2 : Int) ^ e * (x : Int) := Int.mul_nonneg (by omega) (by omega)
  have hmy0 : 0 ≤ (2 : Int) ^ e * (y : Int) := Int.mul_nonneg (by omega) (by omega)
  have husq : InSq (e + 1 + 1) u := by
    rw [hu]
    unfold InSq
    rw [e4]
    simp only
    omega
  have hdx : ((x : Int) - 1) * 2 ^ e = 2 ^ e * (x : Int) - 2 ^ e := by rw [Int.sub_mul, Int.mul_comm]; omega
  have hdy : ((y : Int) - 1) * 2 ^ e = 2 ^ e * (y : Int) - 2 ^ e := by rw [Int.sub_mul, Int.mul_comm]; omega
  rw [hdx, hdy]
  have hcin : insideB e (c.1 - 2 ^ e, c.2 - 2 ^ e) = true := by unfold insideB; exact decide_eq_true (by simp only; omega)
  have hcsq : InSq (e + 1) c := by unfold InSq; rw [e2]; exact ⟨c1, c2, c3, c4⟩
  constructor
  · rintro ⟨t, ht, hta⟩
    obtain ⟨s, hs, rfl⟩ := List.mem_map.1 ht
    have heq := agree_ext (inside_sq (h.ins s hs)) husq (agree_iff.1 hta)
    rw [hu] at heq
    unfold inwardC at heq
    rw [e2] at heq
    injection heq with q1 q2
    refine ⟨inwardC e (c.1 - 2 ^ e, c.2 - 2 ^ e), List.mem_map_of_mem (mem_crop.2 ⟨?_, hcin⟩), ?_⟩
    · have : (c.1 - 2 ^ e + (2 ^ e * (x : Int) - 2 ^ e), c.2 - 2 ^ e + (2 ^ e * (y : Int) - 2 ^ e)) = s := Prod.ext (by simp only; omega) (by simp only; omega)
      simp only
      rw [this]
      exact hs
    · have : inwardC e (c.1 - 2 ^ e, c.2 - 2 ^ e) = c := by unfold inwardC; exact Prod.ext (by simp only; omega) (by simp only; omega)
      rw [this]
      exact agree_iff.2 (Agree.refl _ _)
  · rintro ⟨t, ht, hta⟩
    obtain ⟨s, hs, rfl⟩ := List.mem_map.1 ht
    obtain ⟨hs1, hs2⟩ := mem_crop.1 hs
    have heq := agree_ext (inside_sq hs2) hcsq (agree_iff.1 hta)
    have q1 : s.1 + 2 ^ e = c.1 := by rw [← heq]; rfl
    have q2 : s.2 + 2 ^ e = c.2 := by rw [← heq]; rfl
    refine ⟨_, List.mem_map_of_mem hs1, ?_⟩
    have : inwardC (e + 1) (s.1 + (2 ^ e * (x : Int) - 2 ^ e), s.2 + (2 ^ e * (y : Int) - 2 ^ e)) = u := by
      rw [hu]
      unfold inwardC
      rw [e2]
      exact Prod.ext (by simp only; omega) (by simp only; omega)
    rw [this]
    exact agree_iff.2 (Agree.refl _ _)
end

/-! ### the nine -/
/-- the first of the nine are made; the first error ends it -/
def nineTo (room : Int) (l : List Nd) (n : Nat) : Nat → List Nd × (Nat → Int) × Int
  | 0 => (l, fun _ => 0, 0)
  | i + 1 => if (nineTo room l n i).2.2 = 0 then ((put6 (nineTo room l n i).1 room (sqK l n (i / 3) (i % 3))).1, fun j => if j = i then (put6 (nineTo room l n i).1 room (sqK l n (i / 3) (i % 3))).2.1 else (nineTo room l n i).2.1 j, (put6 (nineTo room l n i).1 room (sqK l n (i / 3) (i % 3))).2.2) else nineTo room l n i
theorem nineTo_right {room : Int} {l : List Nd} {n : Nat} (h : Right6 l room) : ∀ i, Right6 (nineTo room l n i).1 room
  | 0 => h
  | i + 1 => by
    have ih := nineTo_right h (n := n) i
    unfold nineTo
    split
    · exact put_right ih _
    · exact ih
theorem nineTo_stop {room : Int} {l : List Nd} {n i : Nat} (h : ¬ (nineTo room l n i).2.2 = 0) : ∀ d, nineTo room l n (i + d) = nineTo room l n i
  | 0 => rfl
  | d + 1 => by
    have ih := nineTo_stop h d
    show (if (nineTo room l n (i + d)).2.2 = 0 then _ else nineTo room l n (i + d)) = _
    rw [ih, if_neg h]
/-- What is known of the first of the nine. -/
structure NineAt (room : Int) (l : List Nd) (e n i : Nat) (m : List Nd) (p : Nat → Nat) : Prop where
  list : (nineTo room l n i).1 = m
  err : (nineTo room l n i).2.2 = 0
  at_ : ∀ j, j < i → (nineTo room l n i).2.1 j = (p j : Int)
  grows : Grows l m
  right : Right6 m room
  len : m.length ≤ l.length + i
  is : ∀ j, j < i → Is m (e + 1) (p j)
  kids : ∀ j, j < i → at6 m (sqK l n (j / 3) (j % 3)) = some (p j)
theorem sq_lev {l : List Nd} {room : Int} {e n : Nat} (hr : Right6 l room) (hn : Is l (e + 2) n) {m : List Nd} (g : Grows l m) {y x : Nat} (hy : y < 3) (hx : x < 3) : (ndAt m (sqK l n y x).1).1 = (e : Int) := by
  show (ndAt m ((sx l n y x : Nat) : Int)).1 = _
  rw [ndAt_nat]
  exact ((sx_is hr hn (by omega) (by omega)).grows g).lev
theorem NineAt.kid {room : Int} {l m : List Nd} {e n i : Nat} {p : Nat → Nat} (h : NineAt room l e n i m p) {j : Nat} (hj : j < i) : (m.getD (p j) deadN).2.1 = sqK l n (j / 3) (j % 3) := (at_some (h.kids j hj)).2.2.1
/-- made again, in a store that grew -/
theorem NineAt.again {room : Int} {l m b : List Nd} {e n : Nat} {p : Nat → Nat} (hr : Right6 l room) (hn : Is l (e + 2) n) (he : e + 2 ≤ 42) (h : NineAt room l e n 9 m p) (g : Grows m b) {y x : Nat} (hy : y < 3) (hx : x < 3) : put6 b room (sqK b n y x) = (b, ((p (y * 3 + x) : Nat) : Int), 0) := by
  have g' := h.grows.trans g
  have hfit := g'.fit4 (sq_fit hr hn he hy hx)
  rw [sqK_grows hr hn g' hy hx]
  refine put_again hfit ?_
  have := h.kids (y * 3 + x) (by omega)
  rw [show (y * 3 + x) / 3 = y by omega, show (y * 3 + x) % 3 = x by omega] at this
  exact g.at_ this
end Go.Proofs.Ytgjibpgfcbdpgaa
namespace Go.Proofs.Ytgjibpgfcbdpgaa.Cel

/-- whether p is a neighbour of c -/
def nbB (c p : Int × Int) : Bool := decide (-1 ≤ c.1 - p.1 ∧ c.1 - p.1 ≤ 1 ∧ -1 ≤ c.2 - p.2 ∧ c.2 - p.2 ≤ 1 ∧ c ≠ p)
def nbr (l : List (Int × Int)) (p : Int × Int) : Nat := l.countP fun c => nbB c p
def livesB (a : Bool) (n : Int) : Bool := decide (n = 3) || (a && decide (n = 2))
/-- alive behind a generation -/
def aliveB (l : List (Int × Int)) (p : Int × Int) : Bool := livesB (decide (p ∈ l)) (nbr l p)
/-- a cell and its neighbours, row by row -/
def nine (c : Int × Int) : List (Int × Int) :=
  [(c.1 - 1, c.2 - 1), (c.1, c.2 - 1), (c.1 + 1, c.2 - 1), (c.1 - 1, c.2), (c.1, c.2), (c.1 + 1, c.2), (c.1 - 1, c.2 + 1), (c.1, c.2 + 1), (c.1 + 1, c.2 + 1)]
def cand (l : List (Int × Int)) : List (Int × Int) := l.flatMap nine
def nextL (l : List (Int × Int)) : List (Int × Int) := setL ((cand l).filter fun p => aliveB l p)

theorem mem_nine (c p : Int × Int) : p ∈ nine c ↔ -1 ≤ c.1 - p.1 ∧ c.1 - p.1 ≤ 1 ∧ -1 ≤ c.2 - p.2 ∧ c.2 - p.2 ≤ 1 := by
  obtain ⟨a, b⟩ := c
  obtain ⟨x, y⟩ := p
  simp only [nine, List.mem_cons, List.not_mem_nil, or_false, Prod.mk.injEq]
  omega
theorem mem_cand (l : List (Int × Int)) (p : Int × Int) : p ∈ cand l ↔ ∃ c ∈ l, -1 ≤ c.1 - p.1 ∧ c.1 - p.1 ≤ 1 ∧ -1 ≤ c.2 - p.2 ∧ c.2 - p.2 ≤ 1 := by
  unfold cand
  rw [List.mem_flatMap]
  constructor
  · rintro ⟨c, hc, h⟩; exact ⟨c, hc, (mem_nine c p).1 h⟩
  · rintro ⟨c, hc, h⟩; exact ⟨c, hc, (mem_nine c p).2 h⟩
theorem alive_cand {l : List (Int × Int)} {p : Int × Int} (h : aliveB l p = true) : p ∈ cand l := by
  rw [mem_cand]
  by_cases hp : p ∈ l
  · exact ⟨p, hp, by omega⟩
  · have h3 : nbr l p = 3 := by
      simp only [aliveB, livesB, hp, decide_false, Bool.false_and, Bool.or_false, decide_eq_true_eq] at h
      omega
    have hpos : 0 < l.countP fun c => nbB c p := by unfold nbr at h3; omega
    obtain ⟨c, hc, hn⟩ := List.countP_pos_iff.1 hpos
    simp only [nbB, decide_eq_true_eq] at hn
    exact ⟨c, hc, by omega⟩
theorem mem_nextL (l : List (Int × Int)) (p : Int × Int) : p ∈ nextL l ↔ aliveB l p = true := by
  unfold nextL
  rw [mem_setL, List.mem_filter]
  exact ⟨fun h => h.2, fun h => ⟨alive_cand h, h⟩⟩
theorem rises_nextL (l : List (Int × Int)) : Rises (nextL l) := rises_setL _

/-! ### where a generation reaches -/

/-- a box that holds a list -/
def InBox (a b c d : Int) (l : List (Int × Int)) : Prop := ∀ p ∈ l, a ≤ p.1 ∧ p.1 ≤ b ∧ c ≤ p.2 ∧ p.2 ≤ d
theorem length_le_of_subset {α : Type} [DecidableEq α] : ∀ (l m : List α), l.Nodup → (∀ y ∈ l, y ∈ m) → l.length ≤ m.length
  | [], _, _, _ => Nat.zero_le _
  | x :: l, m, hn, h => by
    obtain ⟨h1, h2⟩ := List.nodup_cons.1 hn
    have hx : x ∈ m := h x (by simp)
    have := length_le_of_subset l (m.erase x) h2 fun y hy => by
      have hne : y ≠ x := fun e => h1 (e ▸ hy)
      exact (List.mem_erase_of_ne hne).2 (h y (by simp [hy]))
    rw [List.length_erase_of_mem hx] at this
    have hpos := List.length_pos_of_mem hx
    simp only [List.length_cons]
    omega
theorem rises_nodup {l : List (Int × Int)} (h : Rises l) : l.Nodup := by
  refine List.Pairwise.imp ?_ h
  intro p q hpq e
  rw [e, lessB_irrefl] at hpq
  cases hpq

/-- all cells of a box -/
def boxL (a c : Int) (w h : Nat) : List (Int × Int) := (List.range h).flatMap fun (j : Nat) => (List.range w).map fun (i : Nat) => (a + (i : Int), c + (j : Int))
theorem mem_boxL {a c : Int} {w h : Nat} {p : Int × Int} (h1 : a ≤ p.1 ∧ p.1 < a + w ∧ c ≤ p.2 ∧ p.2 < c + h) : p ∈ boxL a c w h := by
  unfold boxL
  rw [List.mem_flatMap]
  refine ⟨(p.2 - c).toNat, List.mem_range.2 (by omega), List.mem_map.2 ⟨(p.1 - a).toNat, List.mem_range.2 (by omega), ?_⟩⟩
  obtain ⟨x, y⟩ := p
  simp only at h1
  simp only [Prod.mk.injEq]
  omega
theorem length_boxL (a c : Int) (w h : Nat) : (boxL a c w h).length = h * w := by
  unfold boxL
  rw [List.length_flatMap]
  simp only [List.length_map, List.length_range]
  induction h with
  | zero => simp
  | succ h ih => rw [List.range_succ, List.map_append, List.sum_append, ih]; simp [Nat.succ_mul]
theorem box_len {a b c d : Int} {l : List (Int × Int)} (h : InBox a b c d l) (hs : Rises l) (w t : Nat) (hw : b < a + w) (ht : d < c + t) : l.length ≤ t * w := by
  rw [← length_boxL a c w t]
  refine length_le_of_subset _ _ (rises_nodup hs) fun p hp => mem_boxL ?_
  have := h p hp
  omega

/-- generations of lists, without bounds -/
def iterL : Nat → List (Int × Int) → List (Int × Int)
  | 0, l => l
  | n + 1, l => iterL n (nextL l)
end Go.Proofs.Ytgjibpgfcbdpgaa.Cel
namespace Go.Proofs.Ytgjibpgfcbdpgaa.Cel

/-! ### a set that is a third, at least, of what comes of it -/
theorem sum_countP_swap {α β : Type} (R : α → β → Bool) (l : List α) (m : List β) : (m.map fun p => l.countP fun c => R c p).sum = (l.map fun c => m.countP fun p => R c p).sum := by
  induction m with
  | nil => induction l with
    | nil => rfl
    | cons c l ih => simpa using ih
  | cons p m ih =>
    rw [List.map_cons, List.sum_cons, ih]
    clear ih
    induction l with
    | nil => rfl
    | cons c l ih =>
      rw [List.map_cons, List.map_cons, List.sum_cons, List.sum_cons, List.countP_cons, ← ih, List.countP_cons]
      omega
end Go.Proofs.Ytgjibpgfcbdpgaa.Cel
namespace Go.Proofs.Ytgjibpgfcbdpgaa.Cel

/-- the k-th cell about a cell, row by row -/
def offC (x y : Int) (k : Nat) : Int × Int := (x + ((k : Int) % 3) - 1, y + ((k : Int) / 3) - 1)
/-- how many of the first k cells about a cell are in a list, without the cell itself -/
def nTo (l : List (Int × Int)) (x y : Int) (k : Nat) : Nat := (List.range k).countP fun j => decide (j ≠ 4) && decide (offC x y j ∈ l)
theorem count_mem {l : List (Int × Int)} (h : l.Nodup) (q : Int × Int) : (l.countP fun c => decide (c = q)) = if q ∈ l then 1 else 0 := by
  induction l with
  | nil => rfl
  | cons c l ih =>
    obtain ⟨h1, h2⟩ := List.nodup_cons.1 h
    rw [List.countP_cons, ih h2]
    by_cases e : c = q
    · subst e
      simp [h1]
    · have e' : ¬ q = c := fun x => e x.symm
      simp [e, e']
theorem sum_ite (p : (Int × Int) → Bool) (m : List (Int × Int)) : (m.map fun q => if p q then 1 else 0).sum = m.countP p := by
  induction m with
  | nil => rfl
  | cons q m ih => rw [List.map_cons, List.sum_cons, ih, List.countP_cons]; omega
/-- the eight about a cell -/
def eight (x y : Int) : List (Int × Int) := [(x - 1, y - 1), (x, y - 1), (x + 1, y - 1), (x - 1, y), (x + 1, y), (x - 1, y + 1), (x, y + 1), (x + 1, y + 1)]
theorem eight_nodup (x y : Int) : (eight x y).Nodup := by
  simp only [eight, List.nodup_cons, List.mem_cons, List.not_mem_nil, or_false, Prod.mk.injEq, List.nodup_nil, and_true, not_or, not_false_eq_true]
  refine ⟨?_, ?_, ?_, ?_, ?_, ?_, ?_⟩ <;> (try refine ⟨?_, ?_⟩) <;> omega
theorem mem_eight (x y : Int) (c : Int × Int) : decide (c ∈ eight x y) = nbB c (x, y) := by
  obtain ⟨a, b⟩ := c
  rw [Bool.eq_iff_iff, decide_eq_true_eq]
  simp only [eight, List.mem_cons, List.not_mem_nil, or_false, Prod.mk.injEq, nbB, decide_eq_true_eq, ne_eq]
  omega
theorem nTo_eight (l : List (Int × Int)) (x y : Int) : nTo l x y 9 = (eight x y).countP fun q => decide (q ∈ l) := by
  have e : ∀ a : Int, a + 1 - 1 = a := fun a => by omega
  have e2 : ∀ a : Int, a + 2 - 1 = a + 1 := fun a => by omega
  have e0 : ∀ a : Int, a + 0 - 1 = a - 1 := fun a => by omega
  have hr : List.range 9 = [0, 1, 2, 3, 4, 5, 6, 7, 8] := by decide
  unfold nTo
  rw [hr]
  simp only [eight, List.countP_cons, List.countP_nil, offC]
  simp [e, e2, e0]
theorem nTo_nbr {l : List (Int × Int)} (h : Rises l) (x y : Int) : nTo l x y 9 = nbr l (x, y) := by
  rw [nTo_eight]
  have h1 := sum_countP_swap (fun c q : Int × Int => decide (c = q)) l (eight x y)
  have h2 : ((eight x y).map fun q => l.countP fun c => decide (c = q)) = (eight x y).map fun q => if decide (q ∈ l) then 1 else 0 := by
    refine List.map_congr_left fun q _ => ?_
    rw [count_mem (rises_nodup h)]
    simp
  have h3 : (l.map fun c => (eight x y).countP fun q => decide (c = q)) = l.map fun c => if nbB c (x, y) then 1 else 0 := by
    refine List.map_congr_left fun c _ => ?_
    have := count_mem (eight_nodup x y) c
    rw [show (fun q : Int × Int => decide (c = q)) = fun q => decide (q = c) from funext fun q => by rw [Bool.eq_iff_iff, decide_eq_true_eq, decide_eq_true_eq]; exact ⟨Eq.symm, Eq.symm⟩, this, ← mem_eight]
    simp
  rw [h2, h3, sum_ite, sum_ite] at h1
  exact h1

end Go.Proofs.Ytgjibpgfcbdpgaa.Cel
namespace Go.Proofs.Ytgjibpgfcbdpgaa.Cel

/-! ### boxes of generations -/
theorem InBox.mono {a b c d a' b' c' d' : Int} {l : List (Int × Int)} (h : InBox a b c d l) (h1 : a' ≤ a) (h2 : b ≤ b') (h3 : c' ≤ c) (h4 : d ≤ d') : InBox a' b' c' d' l := fun p hp => by
  have := h p hp; omega
end Go.Proofs.Ytgjibpgfcbdpgaa.Cel
namespace Go.Proofs.Ytgjibpgfcbdpgaa
set_option maxRecDepth 100000
set_option linter.unusedVariables false
set_option linter.unusedSimpArgs false

/-- how many are alive about a place -/
def aboutK (l : List Nd) (n y x : Nat) : Nat := sx l n (y - 1) (x - 1) + sx l n (y - 1) x + sx l n (y - 1) (x + 1) + sx l n y (x - 1) + sx l n y (x + 1) + sx l n (y + 1) (x - 1) + sx l n (y + 1) x + sx l n (y + 1) (x + 1)
/-- the place of the cell behind a generation -/
def nxK (l : List Nd) (n y x : Nat) : Nat := if Cel.livesB (decide (sx l n y x = 1)) (aboutK l n y x : Nat) = true then 1 else 0
def stepK (l : List Nd) (n : Nat) : Kd := ((nxK l n 1 1 : Nat), (nxK l n 1 2 : Nat), (nxK l n 2 1 : Nat), (nxK l n 2 2 : Nat))
theorem kd_stepK (l : List Nd) (n : Nat) {j : Nat} (hj : j < 4) : kd (stepK l n) j = ((nxK l n (1 + j / 2) (1 + j % 2) : Nat) : Int) := by
  rcases (by omega : j = 0 ∨ j = 1 ∨ j = 2 ∨ j = 3) with rfl | rfl | rfl | rfl <;> rfl
theorem nxK_lt (l : List Nd) (n y x : Nat) : nxK l n y x < 2 := by unfold nxK; split <;> decide
section
variable {l m : List Nd} {room : Int} {n p : Nat} {S : List (Int × Int)}
theorem sx_two (hr : Right6 l room) (hn : Is l 2 n) {y x : Nat} (hy : y < 4) (hx : x < 4) : sx l n y x < 2 := (sx_is (e := 0) hr hn hy hx).zero hr
theorem nxK_grows (hr : Right6 l room) (hn : Is l 2 n) (g : Grows l m) {y x : Nat} (hy : y < 3) (hx : x < 3) : nxK m n y x = nxK l n y x := by
  unfold nxK aboutK
  rw [sx_grows (e := 0) hr hn g (by omega) (by omega), sx_grows (e := 0) hr hn g (by omega) (by omega), sx_grows (e := 0) hr hn g (by omega) (by omega), sx_grows (e := 0) hr hn g (by omega) (by omega), sx_grows (e := 0) hr hn g (by omega) (by omega), sx_grows (e := 0) hr hn g (by omega) (by omega), sx_grows (e := 0) hr hn g (by omega) (by omega), sx_grows (e := 0) hr hn g (by omega) (by omega), sx_grows (e := 0) hr hn g (by omega) (by omega)]
theorem stepK_grows (hr : Right6 l room) (hn : Is l 2 n) (g : Grows l m) : stepK m n = stepK l n := by
  unfold stepK
  rw [nxK_grows hr hn g (by decide) (by decide), nxK_grows hr hn g (by decide) (by decide), nxK_grows hr hn g (by decide) (by decide), nxK_grows hr hn g (by decide) (by decide)]
theorem cell_is (hr : Right6 l room) {q : Nat} (hq : q < 2) : Is l 0 q := ⟨by have := hr.two; omega, (level_zero hr (by have := hr.two; omega)).2 hq⟩
theorem step_fit (hr : Right6 l room) : Fit4 l (stepK l n) := by
  have h0 : (ndAt l (stepK l n).1).1 = 0 := by
    show (ndAt l ((nxK l n 1 1 : Nat) : Int)).1 = _
    rw [ndAt_nat]
    exact (cell_is hr (nxK_lt _ _ _ _)).lev
  refine ⟨fun j hj => ?_, by omega⟩
  have hj' := cell_is hr (nxK_lt l n (1 + j / 2) (1 + j % 2))
  rw [kd_stepK l n hj, h0]
  exact ⟨by omega, by have := hj'.lt; omega, by rw [ndAt_nat]; exact hj'.lev⟩
/-- a place among the sixteen is 1 just if its cell is in the set -/
theorem sx_mem (h : Sq l room 1 n S) {y x : Nat} (hy : y < 4) (hx : x < 4) : sx l n y x = if ((x : Int) - 2, (y : Int) - 2) ∈ S then 1 else 0 := by
  have h2 := sx_two h.right h.is hy hx
  have hin : insideB 1 ((x : Int) - 2, (y : Int) - 2) = true := by
    unfold insideB
    rw [show (2 : Int) ^ 1 = 2 from rfl]
    exact decide_eq_true (by simp only; omega)
  have hm := h.mem hin
  have e1 : inwardC 1 ((x : Int) - 2, (y : Int) - 2) = ((x : Int), (y : Int)) := by
    unfold inwardC
    rw [show (2 : Int) ^ 1 = 2 from rfl]
    exact Prod.ext (by simp only; omega) (by simp only; omega)
  rw [e1, alive_sx (e := 0) l n ((x : Int), (y : Int)) (y := y) (x := x) (by rw [show (2 : Int) ^ 0 = 1 from rfl]; exact Int.ediv_one _) (by rw [show (2 : Int) ^ 0 = 1 from rfl]; exact Int.ediv_one _) hy hx] at hm
  have hm : decide (sx l n y x = 1) = true ↔ ((x : Int) - 2, (y : Int) - 2) ∈ S := hm
  rw [decide_eq_true_iff] at hm
  by_cases hs : ((x : Int) - 2, (y : Int) - 2) ∈ S
  · rw [if_pos hs]; exact hm.2 hs
  · rw [if_neg hs]
    have : ¬ sx l n y x = 1 := fun q => hs (hm.1 q)
    omega
theorem nbr_eight {T : List (Int × Int)} (hT : Cel.Rises T) (a b : Int) : Cel.nbr T (a, b) = (if (a - 1, b - 1) ∈ T then 1 else 0) + (if (a, b - 1) ∈ T then 1 else 0) + (if (a + 1, b - 1) ∈ T then 1 else 0) + (if (a - 1, b) ∈ T then 1 else 0) + (if (a + 1, b) ∈ T then 1 else 0) + (if (a - 1, b + 1) ∈ T then 1 else 0) + (if (a, b + 1) ∈ T then 1 else 0) + (if (a + 1, b + 1) ∈ T then 1 else 0) := by
  rw [← Cel.nTo_nbr hT, Cel.nTo_eight]
  unfold Cel.eight
  simp only [List.countP_cons, List.countP_nil, decide_eq_true_eq]
  omega
theorem aboutK_nbr (h : Sq l room 1 n S) {y x : Nat} (hy : 1 ≤ y ∧ y < 3) (hx : 1 ≤ x ∧ x < 3) : aboutK l n y x = Cel.nbr S ((x : Int) - 2, (y : Int) - 2) := by
  rw [nbr_eight ((Cel.rightB_iff _).1 h.set).2.2]
  unfold aboutK
  have ex1 : ((x - 1 : Nat) : Int) - 2 = (x : Int) - 2 - 1 := by omega
  have ex2 : ((x + 1 : Nat) : Int) - 2 = (x : Int) - 2 + 1 := by omega
  have ey1 : ((y - 1 : Nat) : Int) - 2 = (y : Int) - 2 - 1 := by omega
  have ey2 : ((y + 1 : Nat) : Int) - 2 = (y : Int) - 2 + 1 := by omega
  rw [sx_mem h (y := y - 1) (x := x - 1) (by omega) (by omega), sx_mem h (y := y - 1) (x := x) (by omega) (by omega), sx_mem h (y := y - 1) (x := x + 1) (by omega) (by omega), sx_mem h (y := y) (x := x - 1) (by omega) (by omega), sx_mem h (y := y) (x := x + 1) (by omega) (by omega), sx_mem h (y := y + 1) (x := x - 1) (by omega) (by omega), sx_mem h (y := y + 1) (x := x) (by omega) (by omega), sx_mem h (y := y + 1) (x := x + 1) (by omega) (by omega)]
  rw [ex1, ex2, ey1, ey2]
theorem nxK_mem (h : Sq l room 1 n S) {y x : Nat} (hy : 1 ≤ y ∧ y < 3) (hx : 1 ≤ x ∧ x < 3) : nxK l n y x = if ((x : Int) - 2, (y : Int) - 2) ∈ Cel.nextL S then 1 else 0 := by
  unfold nxK
  rw [aboutK_nbr h hy hx, sx_mem h (by omega) (by omega)]
  have hd : decide ((if ((x : Int) - 2, (y : Int) - 2) ∈ S then 1 else 0) = 1) = decide (((x : Int) - 2, (y : Int) - 2) ∈ S) := by
    by_cases hs : ((x : Int) - 2, (y : Int) - 2) ∈ S <;> simp [hs]
  rw [hd]
  have hm := Cel.mem_nextL S ((x : Int) - 2, (y : Int) - 2)
  unfold Cel.aliveB at hm
  by_cases hs : ((x : Int) - 2, (y : Int) - 2) ∈ Cel.nextL S
  · rw [if_pos hs, if_pos (hm.1 hs)]
  · rw [if_neg hs, if_neg (fun q => hs (hm.2 q))]
/-- what a step makes stands for what stands in the middle behind a generation -/
theorem Sq.step (h : Sq l room 1 n S) (hm : Right6 m room) (hp : Is m 1 p) (hk : (m.getD p deadN).2.1 = stepK l n) : Sq m room 0 p (cropL (Cel.nextL S) 0 0 0) := by
  refine ⟨hm, hp, by decide, ?_, fun s hs => (mem_crop.1 hs).2, alive_within fun c hc => ?_⟩
  · refine (Cel.rightB_iff _).2 ⟨?_, fun c hc => inside_in (by decide) (mem_crop.1 hc).2, rises_crop (Cel.rises_nextL _) _ _ _⟩
    have hb : Cel.InBox (-1) 0 (-1) 0 (cropL (Cel.nextL S) 0 0 0) := fun q hq => by
      have := of_decide_eq_true (mem_crop.1 hq).2
      rw [show (2 : Int) ^ 0 = 1 from rfl] at this
      omega
    have := Cel.box_len hb (rises_crop (Cel.rises_nextL _) _ _ _) 2 2 (by decide) (by decide)
    omega
  · obtain ⟨c1, c2, c3, c4⟩ := hc
    rw [show (2 : Int) ^ (0 + 1) = 2 from rfl] at c2 c4
    have hq : q7 0 c = c.2.toNat * 2 + c.1.toNat := by
      unfold q7
      rw [show (2 : Int) ^ 0 = 1 from rfl, Int.ediv_one, Int.ediv_one]
      omega
    have hkid : kidN m p (q7 0 c) = nxK l n (1 + c.2.toNat) (1 + c.1.toNat) := by
      unfold kidN
      rw [hk, kd_stepK l n (q7_lt 0 c), hq, Int.toNat_natCast, show (c.2.toNat * 2 + c.1.toNat) / 2 = c.2.toNat by omega, show (c.2.toNat * 2 + c.1.toNat) % 2 = c.1.toNat by omega]
    show decide (kidN m p (q7 0 c) = 1) = _
    rw [hkid, nxK_mem h (by omega) (by omega)]
    have e1 : (((1 + c.1.toNat : Nat) : Int) - 2, ((1 + c.2.toNat : Nat) : Int) - 2) = (c.1 - 1, c.2 - 1) := Prod.ext (by simp only; omega) (by simp only; omega)
    rw [e1, Bool.eq_iff_iff, List.any_eq_true, decide_eq_true_iff]
    have hin : insideB 0 (c.1 - 1, c.2 - 1) = true := by
      unfold insideB
      rw [show (2 : Int) ^ 0 = 1 from rfl]
      exact decide_eq_true (by simp only; omega)
    have hcs : InSq 1 c := by unfold InSq; rw [show (2 : Int) ^ 1 = 2 from rfl]; exact ⟨c1, c2, c3, c4⟩
    constructor
    · intro hh
      by_cases hs : (c.1 - 1, c.2 - 1) ∈ Cel.nextL S
      · refine ⟨inwardC 0 (c.1 - 1, c.2 - 1), List.mem_map_of_mem (mem_crop.2 ⟨by simpa using hs, hin⟩), ?_⟩
        have : inwardC 0 (c.1 - 1, c.2 - 1) = c := by
          unfold inwardC
          rw [show (2 : Int) ^ 0 = 1 from rfl]
          exact Prod.ext (by simp only; omega) (by simp only; omega)
        rw [this]
        exact agree_iff.2 (Agree.refl _ _)
      · rw [if_neg hs] at hh; cases hh
    · rintro ⟨t, ht, hta⟩
      obtain ⟨s, hs, rfl⟩ := List.mem_map.1 ht
      obtain ⟨hs1, hs2⟩ := mem_crop.1 hs
      have heq := agree_ext (inside_sq hs2) hcs (agree_iff.1 hta)
      have q1 : s.1 + 2 ^ 0 = c.1 := by rw [← heq]; rfl
      have q2 : s.2 + 2 ^ 0 = c.2 := by rw [← heq]; rfl
      rw [show (2 : Int) ^ 0 = 1 from rfl] at q1 q2
      have : (c.1 - 1, c.2 - 1) = (s.1 + 0, s.2 + 0) := Prod.ext (by simp only; omega) (by simp only; omega)
      rw [if_pos (by rw [this]; exact hs1)]
end
end Go.Proofs.Ytgjibpgfcbdpgaa
namespace Go.Proofs.Ytgjibpgfcbdpgaa
set_option maxRecDepth 100000
set_option linter.unusedVariables false
set_option linter.unusedSimpArgs false
open Go.RowKit Go.Sort

/-- a maker of package base in a box -/
def MB (w : World) (b g : Nat) : Prop := w.heap[b]? = some (.cells #[.pointer (some ⟨g, 0, none⟩)] 73 (0, 0))
theorem MB.kp {w w' : World} {b g : Nat} (h : MB w b g) (hk : Kp w w') : MB w' b g := hk _ _ _ _ h ⟨.inl (by decide), by decide⟩
theorem MB.c {w : World} {b g : Nat} (h : MB w b g) : w.cell? ⟨b, 0, none⟩ = some (.pointer (some ⟨g, 0, none⟩)) := by rw [Lib.cell_of_heap h]; rfl
theorem MB.below {w w' : World} {b g : Nat} (h : MB w b g) (hb : Below w.heap.size w w') : MB w' b g := (hb.block _ (lt_heap6 h)).trans h
/-- the level of a node; below all levels, if there is no such node -/
def levI (l : List Nd) (n : Int) : Int := if 0 ≤ n ∧ n < l.length then (ndAt l n).1 else -1
set_option maxHeartbeats 4000000 in
theorem level_any (room : Int) (n0 g b : Nat) (l : List Nd) (n : Int) (w : World) (hix : Ix n0 w g b l room) (hr : Right6 l room) : Calls Try.prog 90 #[makerV g, .int .i64 n] w fun r w' => r = .returned (.int .i64 (levI l n)) ∧ Below w.heap.size w w' := by
  have hal := (Below.refl w.heap.size w).alloc (Nat.le_refl _) (.cells #[.pointer (some ⟨g, 0, none⟩)] 73)
  have hM : MB (w.alloc (.cells #[.pointer (some ⟨g, 0, none⟩)] 73)) w.heap.size g := heap_alloc_new w _
  obtain ⟨q, cap, g0, g1, hrd, hcap, hnd⟩ := ix_rd (hix.below hal) hr.two
  have m0 := hM.c
  have HA := Lib.hid hal
  have h100 := hr.small
  clear hix hal hM hrd g1
  by_cases h0 : n < 0
  · have hb : levI l n = -1 := if_neg (by omega)
    rw [hb]
    have d0 : decide (n < 0) = true := decide_eq_true h0
    clear hb hnd
    go_enter Try.func90, Try.ntmps90
    go_wp2_with fail
    go_ret
    exact ⟨rfl, HA.out⟩
  have d0 : decide (n < 0) = false := decide_eq_false h0
  by_cases h1 : (l.length : Int) ≤ n
  · have hb : levI l n = -1 := if_neg (by omega)
    rw [hb]
    have d1 : decide ((l.length : Int) ≤ n) = true := decide_eq_true h1
    clear hb hnd
    go_enter Try.func90, Try.ntmps90
    go_wp2_with fail
    go_ret
    exact ⟨rfl, HA.out⟩
  have d1 : decide ((l.length : Int) ≤ n) = false := decide_eq_false h1
  obtain ⟨k, rfl⟩ : ∃ k : Nat, n = (k : Int) := ⟨n.toNat, by omega⟩
  have x0 := (hnd k (by omega)).1
  have hkz : (k : Int) < (l.length : Int) := by omega
  have hb : levI l (k : Int) = (l.getD k deadN).1 := by
    unfold levI
    rw [if_pos (by omega), ndAt_nat]
  rw [hb]
  have d2 : decide (l.length ≤ k) = false := decide_eq_false (by omega)
  generalize (l.getD k deadN).1 = lv at *
  clear hb hnd
  go_enter Try.func90, Try.ntmps90
  go_wp2_with fail
  go_ret
  exact ⟨rfl, HA.out⟩
end Go.Proofs.Ytgjibpgfcbdpgaa
