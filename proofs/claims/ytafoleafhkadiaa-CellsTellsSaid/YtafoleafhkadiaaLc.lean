/-
  Shifts of the sets that raw numbers make: what they come to, and the contracts that the laws use.
-/
import Derived.Test.YtafoleafhkadiaaCo
import Derived.Test.YtafoleafhkadiaaLa
import Derived.Test.YtafoleafhkadiaaCr
namespace Go.Proofs.Ytafoleafhkadiaa
open Go.RowKit Go.Sort

theorem shL_shL (a b x y : Int) (l : List (Int × Int)) : shL x y (shL a b l) = shL (a + x) (b + y) l := by
  unfold shL
  rw [List.map_map]
  refine List.map_congr_left fun c _ => ?_
  simp only [Function.comp_apply, Prod.mk.injEq]
  omega
theorem shL_back (a b : Int) (l : List (Int × Int)) : shL (-a) (-b) (shL a b l) = l := by
  rw [shL_shL, show a + -a = 0 by omega, show b + -b = 0 by omega]
  unfold shL
  conv => rhs; rw [← List.map_id l]
  refine List.map_congr_left fun c _ => ?_
  simp
theorem rises_shL (x y : Int) {l : List (Int × Int)} (h : Rises l) : Rises (shL x y l) := by
  unfold shL Rises
  rw [List.pairwise_map]
  refine List.Pairwise.imp ?_ h
  intro p q hpq
  rw [lessB_iff] at *
  simp only
  omega
/-- A set near the middle. -/
def Near (l : List (Int × Int)) : Prop := l.length ≤ 60 ∧ Rises l ∧ ∀ p ∈ l, -8 ≤ p.1 ∧ p.1 ≤ 7 ∧ -8 ≤ p.2 ∧ p.2 ≤ 7
theorem rawSet_near (raw : List (Int × Int)) : Near (rawSet raw) := ⟨rawSet_len raw, rawSet_rises raw, fun _ hp => rawTo_bd ((mem_setL _ _).1 hp)⟩
def Far (x : Int) : Prop := -1099511627000 ≤ x ∧ x ≤ 1099511627000
theorem Near.far {l : List (Int × Int)} (h : Near l) {x y : Int} (hx : Far x) (hy : Far y) : rightB (shL x y l) = true := by
  unfold Far at hx hy
  refine (rightB_iff _).2 ⟨?_, fun c hc => ?_, rises_shL x y h.2.1⟩
  · rw [length_shL]; exact Nat.le_trans h.1 (by decide)
  · obtain ⟨p, hp, rfl⟩ := List.mem_map.1 hc
    have := h.2.2 p hp
    rw [inB_iff]
    simp only
    omega
theorem Near.right {l : List (Int × Int)} (h : Near l) : rightB l = true := by
  have := h.far (x := 0) (y := 0) ⟨by decide, by decide⟩ ⟨by decide, by decide⟩
  have e : shL 0 0 l = l := by
    unfold shL
    conv => rhs; rw [← List.map_id l]
    refine List.map_congr_left fun c _ => ?_
    simp
  rwa [e] at this
theorem all_of_right {l : List (Int × Int)} (h : rightB l = true) : ∀ p ∈ l, inB p = true := ((rightB_iff l).1 h).2.1

theorem loX_shL (x y : Int) {l : List (Int × Int)} (h0 : 0 < l.length) {k : Nat} (hk : k ≤ l.length) : loX (shL x y l) k = loX l k + x := by
  induction k with
  | zero => rw [loX_zero, loX_zero, getD_shL x y l h0]
  | succ k ih => rw [loX_succ (by rw [length_shL]; omega), loX_succ (by omega), ih (by omega), getD_shL x y l (by omega)]; omega
theorem hiX_shL (x y : Int) {l : List (Int × Int)} (h0 : 0 < l.length) {k : Nat} (hk : k ≤ l.length) : hiX (shL x y l) k = hiX l k + x := by
  induction k with
  | zero => rw [hiX_zero, hiX_zero, getD_shL x y l h0]
  | succ k ih => rw [hiX_succ (by rw [length_shL]; omega), hiX_succ (by omega), ih (by omega), getD_shL x y l (by omega)]; omega
theorem boxV_shL (x y : Int) {l : List (Int × Int)} (h0 : 0 < l.length) :
    boxV (shL x y l) = .agg #[.int .i64 (loX l l.length + x), .int .i64 ((l.getD 0 (0, 0)).2 + y), .int .i64 (hiX l l.length - loX l l.length + 1), .int .i64 ((l.getD (l.length - 1) (0, 0)).2 - (l.getD 0 (0, 0)).2 + 1)] := by
  unfold boxV
  rw [length_shL, loX_shL x y h0 (Nat.le_refl _), hiX_shL x y h0 (Nat.le_refl _), getD_shL x y l h0, getD_shL x y l (by omega)]
  have e1 : hiX l l.length + x - (loX l l.length + x) + 1 = hiX l l.length - loX l l.length + 1 := by omega
  have e2 : (l.getD (l.length - 1) (0, 0)).2 + y - ((l.getD 0 (0, 0)).2 + y) + 1 = (l.getD (l.length - 1) (0, 0)).2 - (l.getD 0 (0, 0)).2 + 1 := by omega
  simp only [e1, e2]

/-- A slice whose cells read as a list, now. -/
def Now (w : World) (A : Option Addr) (l : List (Int × Int)) : Prop := Rd w w.heap.size A l
theorem Now.below {w w' : World} {A : Option Addr} {l : List (Int × Int)} (h : Now w A l) (hb : Below w.heap.size w w') : Now w' A l := (Rd.below h hb (Nat.le_refl _)).more hb.size

theorem shift_ok {A : Option Addr} {l : List (Int × Int)} {n c : Nat} {dx dy : Int} {w : World} (hR : Now w A l) (hn : n = l.length) (hc : n ≤ c) (hr : rightB l = true) (hr2 : rightB (shL dx dy l) = true) (hdx : I64 dx) (hdy : I64 dy) :
    Calls Try.prog 26 #[.slice A n c, .int .i64 dx, .int .i64 dy] w fun e w' => ∃ g, e = .returned (.tuple #[.slice (some ⟨g, 0, none⟩) n n, .int .i64 0]) ∧ Hid (Now w' (some ⟨g, 0, none⟩) (shL dx dy l)) ∧ Below w.heap.size w w' := by
  subst hn
  have hl : l.length ≤ 1000000 := Nat.le_trans ((rightB_iff l).1 hr).1 (by decide)
  refine (shift_any A l c dx dy w hR hl hc hr (all_of_right hr) hdx hdy).mono ?_
  rintro e w' ⟨hb, h⟩
  rw [if_pos (by rw [List.all_eq_true]; exact all_of_right hr2)] at h
  obtain ⟨g, rfl, hrow⟩ := h
  exact ⟨g, rfl, hrow.rd, hb⟩

theorem same_yes {A A' : Option Addr} {l m : List (Int × Int)} {n c c' : Nat} {w : World} (hR : Now w A l) (hR' : Now w A' m) (hn : n = l.length) (hl : n ≤ 1000000) (he : l = m) :
    Calls Try.prog 16 #[.slice A n c, .slice A' n c'] w fun e w' => e = .returned (.bool true) ∧ Below w.heap.size w w' := by
  subst hn he
  have := same_holds (c := c) (c' := c') hR hR' hl
  rwa [decide_eq_true rfl] at this

end Go.Proofs.Ytafoleafhkadiaa
