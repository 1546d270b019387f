/-
  Texts that the claims of this seat share, part 18.
-/
import Derived.Test.YtmmaeikeafemaaaGreatB12
import Derived.Test.YtmmaeikeafemaaaGreatB11
import Derived.Test.YtmmaeikeafemaaaGreatB17
import Derived.Test.YtmmaeikeafemaaaGreatB16
import Derived.Test.YtmmaeikeafemaaaGreatB13
set_option linter.unusedVariables false
set_option linter.unusedSimpArgs false
namespace Go.Proofs.YtmmaeikeafemaaaGreat
set_option maxRecDepth 100000
set_option linter.unusedVariables false
set_option linter.unusedSimpArgs false

theorem any_set {e : Nat} {S T : List (Int × Int)} {c : Int × Int} {a : Bool} (hS : ∀ s ∈ S, insideB e s = true) (hT : ∀ s ∈ T, insideB e s = true) (hc : insideB e c = true) (hST : ∀ y, y ∈ S ↔ if y = c then a = true else y ∈ T) (d : Int × Int) :
    ((S.map (inwardC e)).any fun s => agreeB (e + 1) s d) = if agreeB (e + 1) (inwardC e c) d = true then a else (T.map (inwardC e)).any fun s => agreeB (e + 1) s d := by
  have hone : ∀ s, insideB e s = true → agreeB (e + 1) (inwardC e c) d = true → agreeB (e + 1) (inwardC e s) d = true → s = c := fun s hs h1 h2 => by
    have := agree_ext (inside_sq hs) (inside_sq hc) ((agree_iff.1 h2).trans (agree_iff.1 h1).symm)
    unfold inwardC at this
    injection this with e1 e2
    exact Prod.ext (by omega) (by omega)
  by_cases h : agreeB (e + 1) (inwardC e c) d = true
  · rw [if_pos h, Bool.eq_iff_iff, List.any_eq_true]
    constructor
    · rintro ⟨t, ht, ha⟩
      obtain ⟨s, hs, rfl⟩ := List.mem_map.1 ht
      have := (hST s).1 hs
      rwa [if_pos (hone s (hS s hs) h ha)] at this
    · intro ha
      exact ⟨_, List.mem_map_of_mem ((hST c).2 (by rw [if_pos rfl]; exact ha)), h⟩
  · rw [if_neg h, Bool.eq_iff_iff, List.any_eq_true, List.any_eq_true]
    constructor
    · rintro ⟨t, ht, ha⟩
      obtain ⟨s, hs, rfl⟩ := List.mem_map.1 ht
      have hne : ¬ s = c := fun q => by subst q; exact h ha
      have := (hST s).1 hs
      rw [if_neg hne] at this
      exact ⟨_, List.mem_map_of_mem this, ha⟩
    · rintro ⟨t, ht, ha⟩
      obtain ⟨s, hs, rfl⟩ := List.mem_map.1 ht
      have hne : ¬ s = c := fun q => by subst q; exact h ha
      exact ⟨_, List.mem_map_of_mem ((hST s).2 (by rw [if_neg hne]; exact hs)), ha⟩
section
variable {l m : List Nd} {room : Int} {e n p : Nat} {S T : List (Int × Int)} {c : Int × Int}
theorem Sq.lev7 (h : Sq l room e n S) : (ndAt l (n : Int)).1.toNat = e + 1 := by rw [ndAt_nat, h.is.lev]; omega
theorem setZ_yes (h : Sq l room e n S) (hc : insideB e c = true) (a : Bool) : setZ room l n c a = setC room (e + 1) l n (inwardC e c) a := by
  unfold setZ
  rw [if_pos h.has, h.lev7, Nat.add_sub_cancel, if_pos hc, Int.toNat_natCast]
theorem set7_yes (h : Sq l room e n S) (hc : insideB e c = true) (a : Bool) {m : List Nd} {p : Int} (hz : setC room (e + 1) l n (inwardC e c) a = (m, p, 0)) : set7 l room n c a = (m, p, 0) := by
  unfold set7 grown6
  rw [if_pos (right_iff.2 h.right), setZ_yes h hc, hz, if_pos rfl]
theorem Sq.set_fine (h : Sq l room e n S) (hc : insideB e c = true) (a : Bool) (hroom : ((l.length + (e + 1) : Nat) : Int) ≤ room) :
    ∃ (m : List Nd) (p : Nat), set7 l room n c a = (m, (p : Int), 0) ∧ Grows l m ∧ Right6 m room ∧ Is m (e + 1) p ∧ m.length ≤ l.length + (e + 1) ∧ ∀ d, Go.Proofs.YtmmaeikeafemaaaGreat.alive m (e + 1) p d = if agreeB (e + 1) (inwardC e c) d = true then a else Go.Proofs.YtmmaeikeafemaaaGreat.alive l (e + 1) n d := by
  obtain ⟨m, _, p, rfl, e1, g, r, is, len, al⟩ := set_ok (room := room) (e + 1) l n (inwardC e c) a (by have := h.low; omega) h.right h.is hroom
  exact ⟨m, p, set7_yes h hc a e1, g, r, is, len, al⟩
theorem set_mem (a : Bool) (y : Int × Int) : y ∈ (if a = true then Cel.putL c S else Cel.outL c S) ↔ if y = c then a = true else y ∈ S := by
  cases a with
  | true =>
    rw [if_pos rfl, Cel.mem_putL]
    by_cases h : y = c <;> simp [h]
  | false =>
    rw [if_neg (by decide)]
    unfold Cel.outL
    by_cases h : y = c <;> simp [h]
theorem set_right (hS : Cel.rightB S = true) (hc : Cel.inB c = true) (hl : S.length < 2000) (a : Bool) : Cel.rightB (if a = true then Cel.putL c S else Cel.outL c S) = true := by
  have h3 := (Cel.rightB_iff _).1 hS
  refine (Cel.rightB_iff _).2 ⟨?_, fun s hs => ?_, ?_⟩
  · cases a with
    | true => rw [if_pos rfl]; have := Cel.length_putL_le c S; omega
    | false => rw [if_neg (by decide)]; have : (Cel.outL c S).length ≤ S.length := List.length_filter_le _ _; omega
  · have := (set_mem a s).1 hs
    by_cases h : s = c
    · rw [h]; exact hc
    · rw [if_neg h] at this; exact h3.2.1 s this
  · cases a with
    | true => rw [if_pos rfl]; exact Cel.rises_putL _ h3.2.2
    | false => rw [if_neg (by decide)]; exact List.Pairwise.filter _ h3.2.2
theorem set_ins (hS : ∀ s ∈ S, insideB e s = true) (hc : insideB e c = true) (a : Bool) : ∀ s ∈ (if a = true then Cel.putL c S else Cel.outL c S), insideB e s = true := fun s hs => by
  have := (set_mem a s).1 hs
  by_cases h : s = c
  · rw [h]; exact hc
  · rw [if_neg h] at this; exact hS s this
/-- a cell is set -/
theorem Sq.put (h : Sq l room e n S) (hc : insideB e c = true) (hin : Cel.inB c = true) (hl : S.length < 2000) (a : Bool) (hroom : ((l.length + (e + 1) : Nat) : Int) ≤ room) :
    ∃ (m : List Nd) (p : Nat), set7 l room n c a = (m, (p : Int), 0) ∧ Grows l m ∧ Sq m room e p (if a = true then Cel.putL c S else Cel.outL c S) ∧ m.length ≤ l.length + (e + 1) := by
  obtain ⟨m, p, e1, g, r, is, len, al⟩ := h.set_fine hc a hroom
  refine ⟨m, p, e1, g, ⟨r, is, h.low, set_right h.set hin hl a, set_ins h.ins hc a, fun d => ?_⟩, len⟩
  rw [al d, any_set (set_ins h.ins hc a) h.ins hc (set_mem a) d, h.alive d]
theorem Sq.get (h : Sq l room e n S) (c : Int × Int) : get7 l room n c = (insideB e c && decide (c ∈ S), 0) := by
  unfold get7
  rw [if_pos (by rw [right_iff.2 h.right, h.has]; rfl), h.lev7, Nat.add_sub_cancel, Int.toNat_natCast]
  cases hc : insideB e c with
  | false => rfl
  | true =>
    have hm := h.mem hc
    simp only [Bool.true_and]
    congr 1
    rw [Bool.eq_iff_iff, decide_eq_true_iff]
    exact hm
end

/-! ### a node of four quarters that are there -/
theorem node_res {room : Int} {K : Nat} {l : List Nd} {h k : Nat} {q : Kd} {A : Nat → Int × Int → Bool} (hk : k + 1 ≤ 42) (hr : Right6 l room) (hK : h ≤ K) (he : ∃ e, Emp l h e)
    (hall : ∀ i, i < 4 → ∃ n : Nat, kd q i = (n : Int) ∧ Is l k n ∧ ∀ c, alive l k n c = A i c) (hroom : ((l.length + 1 : Nat) : Int) ≤ room) :
    Res room K l h (put6 l room q) (k + 1) (fun c => A (q7 k c) c) 1 := by
  have hlev : ∀ i, i < 4 → (ndAt l (kd q i)).1 = (k : Int) := fun i hi => by
    obtain ⟨n, en, isn, _⟩ := hall i hi
    rw [en, ndAt_nat]
    exact isn.lev
  have h0 : (ndAt l q.1).1 = (k : Int) := hlev 0 (by decide)
  have hfit : Fit4 l q := by
    refine ⟨fun i hi => ?_, by omega⟩
    obtain ⟨n, en, isn, _⟩ := hall i hi
    have h1 := hlev i hi
    have := isn.lt
    exact ⟨by omega, by omega, by rw [h1, h0]⟩
  rcases put_ok hr hfit with ⟨m', n', e', hp⟩ | ⟨_, hf, _⟩
  · obtain ⟨_, p2, p3, p4, _⟩ := hp.node hfit
    refine ⟨m', n', h, e', hp.grows, hp.right, ⟨p2, by rw [p4, h0]; omega⟩, fun c => ?_, Nat.le_refl _, hK, ?_, by have := hp.more; omega⟩
    · obtain ⟨n, en, isn, aln⟩ := hall (q7 k c) (q7_lt k c)
      show alive m' k (kidN m' n' (q7 k c)) c = _
      have : kidN m' n' (q7 k c) = n := by unfold kidN; rw [p3, en, Int.toNat_natCast]
      rw [this, alive_grows hr hp.grows c k n isn, aln c]
    · obtain ⟨e2, he2⟩ := he
      exact ⟨e2, emp_grows hp.grows _ _ he2⟩
  · omega

/-! ### a node grown -/
theorem div_zero {x P : Int} (h0 : 0 ≤ x) (h1 : x < P) : x / P = 0 := Int.ediv_eq_zero_of_lt h0 h1
theorem div_one {x P : Int} (hP : 0 < P) (h0 : P ≤ x) (h1 : x < P * 2) : x / P = 1 := by
  have e : x = (x - P) + P * 1 := by omega
  rw [e, Int.add_mul_ediv_left _ _ (by omega), div_zero (by omega) (by omega)]
  rfl
theorem grow_bits {e : Nat} {s : Int × Int} (hs : insideB e s = true) : q7 (e + 1) (inwardC (e + 1) s) = q7 e (inwardC e s) ∧ q7 e (inwardC (e + 1) s) = 3 - q7 e (inwardC e s) ∧ Agree e (inwardC (e + 1) s) (inwardC e s) := by
  have hin := inside_sq hs
  have e2 : (2 : Int) ^ (e + 1) = 2 ^ e * 2 := Int.pow_succ _ _
  have hu : inwardC (e + 1) s = ((inwardC e s).1 + 2 ^ e * 1, (inwardC e s).2 + 2 ^ e * 1) := by
    unfold inwardC
    rw [e2]
    exact Prod.ext (by simp only; omega) (by simp only; omega)
  refine ⟨?_, ?_, by rw [hu]; exact agree_shift _ _ _ _⟩
  all_goals
    rw [hu]
    unfold InSq at hin
    unfold q7
    rw [e2] at hin
    try rw [e2]
    simp only
    have hp := pow_pos7 e
    generalize (inwardC e s).1 = x at *
    generalize (inwardC e s).2 = y at *
    generalize (2 : Int) ^ e = P at *
    have key : ∀ z : Int, 0 ≤ z → z < P * 2 → (z / P = 0 ∧ (z + P * 1) / P = 1 ∧ (z + P * 1) / (P * 2) = 0) ∨ (z / P = 1 ∧ (z + P * 1) / P = 2 ∧ (z + P * 1) / (P * 2) = 1) := fun z h0 h1 => by
      have hz : (z + P * 1) / P = z / P + 1 := Int.add_mul_ediv_left _ _ (by omega)
      by_cases hlt : z < P
      · left
        rw [hz, div_zero h0 hlt, div_zero (by omega) (by omega)]
        exact ⟨rfl, rfl, rfl⟩
      · right
        rw [hz, div_one hp (by omega) h1, div_one (by omega) (by omega) (by omega)]
        exact ⟨rfl, rfl, rfl⟩
    obtain ⟨h1, h2, h3, h4⟩ := hin
    rcases key x h1 h2 with ⟨a1, a2, a3⟩ | ⟨a1, a2, a3⟩ <;> rcases key y h3 h4 with ⟨b1, b2, b3⟩ | ⟨b1, b2, b3⟩ <;> simp only [a1, a2, a3, b1, b2, b3] <;> decide
theorem grow_agree {e : Nat} {s : Int × Int} (hs : insideB e s = true) (c : Int × Int) : agreeB (e + 2) (inwardC (e + 1) s) c = true ↔ q7 e c = 3 - q7 (e + 1) c ∧ q7 e (inwardC e s) = q7 (e + 1) c ∧ Agree e (inwardC e s) c := by
  obtain ⟨h1, h2, h3⟩ := grow_bits hs
  rw [agree_iff, agree_succ, agree_succ, h1, h2]
  constructor
  · rintro ⟨a, b, d⟩
    exact ⟨by rw [← a]; exact b.symm, a, h3.symm.trans d⟩
  · rintro ⟨a, b, d⟩
    exact ⟨b, by rw [b]; exact a.symm, h3.trans d⟩
theorem growZ_yes {l : List Nd} {room : Int} {e n : Nat} {S : List (Int × Int)} (h : Sq l room e n S) (he : e + 1 ≤ 41) : growZ room l n = growC room l n e := by
  unfold growZ
  have h1 : ¬ (ndAt l (n : Int)).1 = 42 := by rw [ndAt_nat, h.is.lev]; omega
  rw [if_pos (by rw [h.has, decide_eq_true h1]; rfl), h.lev7, Int.toNat_natCast, Nat.add_sub_cancel]
theorem Sq.grow {l : List Nd} {room : Int} {e n : Nat} {S : List (Int × Int)} (h : Sq l room e n S) (he : e + 1 ≤ 41) {t : Nat} (hE : ∃ x, Emp l t x) (ht : t ≤ 42) (hroom : ((l.length + 5 + (max t e - t) : Nat) : Int) ≤ room) :
    ∃ (m : List Nd) (p : Nat), grow7 l room n = (m, (p : Int), 0) ∧ Grows l m ∧ Sq m room (e + 1) p S ∧ (∃ x, Emp m (max t e) x) ∧ m.length ≤ l.length + 5 + (max t e - t) := by
  have hr := h.right
  -- a dead node of the kids' level
  obtain ⟨l1, d, e1, g1, r1, em1, em1', len1⟩ : ∃ (l1 : List Nd) (d : Nat), emptyTo l room e = (l1, (d : Int), 0) ∧ Grows l l1 ∧ Right6 l1 room ∧ Emp l1 e d ∧ (∃ x, Emp l1 (max t e) x) ∧ l1.length ≤ l.length + (max t e - t) := by
    obtain ⟨x, hx⟩ := hE
    by_cases hte : e ≤ t
    · obtain ⟨d, hd⟩ := emp_below t x hx e hte
      exact ⟨l, d, empty_had hr e d (by omega) hd, Grows.refl l, hr, hd, ⟨x, by rw [Nat.max_eq_left hte]; exact hx⟩, by omega⟩
    · obtain ⟨m, n', e2, g, r, em, len⟩ := empty_from hr (i := t) (e := x) ht hx (e - t) (by omega) (by omega)
      rw [show t + (e - t) = e by omega] at e2 em
      exact ⟨m, n', e2, g, r, em, ⟨n', by rw [Nat.max_eq_right (by omega)]; exact em⟩, by omega⟩
  have hn1 := h.is.grows g1
  have hdis := emp_is r1 em1
  have hkd : ∀ i, i < 4 → kd (l.getD n deadN).2.1 i = ((kidN l n i : Nat) : Int) := fun i hi => kid_cast hr h.is hi
  obtain ⟨m, p, h', e3, R⟩ := four_res (room := room) (K := max t e) (l := l1) (h := max t e) (k := e + 1) (F := fun i l' => put6 l' room (growK (l.getD n deadN).2.1 (d : Int) i)) (A := fun i c => if q7 e c = 3 - i then Go.Proofs.YtmmaeikeafemaaaGreat.alive l e (kidN l n i) c else false) (cost := fun _ => 1)
    (by omega) r1 (Nat.le_refl _) em1' (fun i hi l' h' g' r' lo hi' em' len' => by
      refine node_res (A := fun j c => if j = 3 - i then Go.Proofs.YtmmaeikeafemaaaGreat.alive l e (kidN l n i) c else false) (by omega) r' hi' em' (fun j hj => ?_) (by
        have : ((List.range i).map fun _ => 1).sum ≤ 3 := by
          rcases (by omega : i = 0 ∨ i = 1 ∨ i = 2 ∨ i = 3) with rfl | rfl | rfl | rfl <;> decide
        omega)
      show ∃ n' : Nat, kd (kset ((d : Int), (d : Int), (d : Int), (d : Int)) (3 - i) (kd (l.getD n deadN).2.1 i)) j = (n' : Int) ∧ _
      rw [kd_kset _ _ (by omega) hj]
      by_cases hji : j = 3 - i
      · rw [if_pos hji]
        exact ⟨kidN l n i, hkd i hi, ((kid_is hr h.is hi).grows g1).grows g', fun c => by rw [if_pos hji, alive_grows hr (g1.trans g') c e _ (kid_is hr h.is hi)]⟩
      · rw [if_neg hji, kd_four _ j hj]
        exact ⟨d, rfl, hdis.grows g', fun c => by rw [if_neg hji]; exact emp_alive c e d (emp_grows g' _ _ em1)⟩) (by
      have : ((List.range 4).map fun _ => 1).sum = 4 := rfl
      omega)
  have hz : growC room l n e = (m, (p : Int), 0) := by
    unfold growC
    rw [e1, if_pos rfl]
    exact e3
  have hgr : grow7 l room n = (m, (p : Int), 0) := by
    unfold grow7 grown6
    rw [if_pos (right_iff.2 hr), growZ_yes h he, hz, if_pos rfl]
  have hh : h' = max t e := Nat.le_antisymm R.hi R.lo
  refine ⟨m, p, hgr, g1.trans R.grows, ⟨R.right, R.is, he, h.set, fun s hs => ?_, fun c => ?_⟩, by rw [← hh]; exact R.emp, ?_⟩
  · have := of_decide_eq_true (h.ins s hs)
    have e2 : (2 : Int) ^ (e + 1) = 2 ^ e * 2 := Int.pow_succ _ _
    have hp := pow_pos7 e
    unfold insideB
    rw [e2]
    generalize (2 : Int) ^ e = P at *
    exact decide_eq_true (by omega)
  · rw [R.alive c]
    have hq := q7_lt (e + 1) c
    obtain ⟨c', h1, h2, e4⟩ := kid_alive l e n hq c
    show (if q7 e c = 3 - q7 (e + 1) c then Go.Proofs.YtmmaeikeafemaaaGreat.alive l e (kidN l n (q7 (e + 1) c)) c else false) = _
    rw [Bool.eq_iff_iff, List.any_eq_true]
    constructor
    · intro ha
      by_cases hqq : q7 e c = 3 - q7 (e + 1) c
      · rw [if_pos hqq, e4, h.alive c', List.any_eq_true] at ha
        obtain ⟨u, hu, hua⟩ := ha
        obtain ⟨s, hs, rfl⟩ := List.mem_map.1 hu
        obtain ⟨b1, b2⟩ := agree_succ.1 (agree_iff.1 hua)
        exact ⟨_, List.mem_map_of_mem hs, (grow_agree (h.ins s hs) c).2 ⟨hqq, b1.trans h1, b2.trans h2⟩⟩
      · rw [if_neg hqq] at ha
        cases ha
    · rintro ⟨u, hu, hua⟩
      obtain ⟨s, hs, rfl⟩ := List.mem_map.1 hu
      obtain ⟨b1, b2, b3⟩ := (grow_agree (h.ins s hs) c).1 hua
      rw [if_pos b1, e4, h.alive c', List.any_eq_true]
      exact ⟨_, List.mem_map_of_mem hs, agree_iff.2 (agree_succ.2 ⟨b2.trans h1.symm, b3.trans h2.symm⟩)⟩
  · have := R.len
    have hs : ((List.range 4).map fun _ : Nat => 1).sum = 4 := rfl
    omega
end Go.Proofs.YtmmaeikeafemaaaGreat
namespace Go.Proofs.YtmmaeikeafemaaaGreat
set_option maxRecDepth 100000
set_option linter.unusedVariables false
set_option linter.unusedSimpArgs false
open Go.RowKit Go.Sort

set_option maxHeartbeats 16000000 in
theorem refMay7_any (A : Option Addr) (l : List Nd) (c : Nat) (room n : Int) (w : World) (hR : RdN w w.heap.size A l) (hl : l.length ≤ 1000000) (hw : ∀ i, i < l.length → -9223372036854775808 ≤ (l.getD i deadN).1 ∧ (l.getD i deadN).1 ≤ 9223372036854775807) :
    Calls Tryz.prog 39 #[storeV A l.length c room, .int .i64 n] w fun r w' => r = .returned (.bool (right6 l room && hasB l n)) ∧ Below w.heap.size w w' := by
  have hG0 := storeAt_0 w A l.length c room
  have hright := refRight6_any A l c room _ ((hR.below hG0.bel (Nat.le_refl _)).more hG0.bel.size) hl hw
  have HG := Lib.hid hG0
  have s0 := hG0.s0
  have s1 := hG0.s1
  have HR := Lib.hid hR
  unfold storeV at hright ⊢
  clear hG0 hR
  obtain ⟨z, hz⟩ : ∃ z, z = (right6 l room && hasB l n) := ⟨_, rfl⟩
  rw [← hz]
  unfold hasB at hz
  by_cases hq : right6 l room = true
  · rw [hq, Bool.true_and] at hz
    rw [hq] at hright
    by_cases h1 : 0 ≤ n
    · by_cases h2 : n < (l.length : Int)
      · obtain ⟨m, rfl⟩ : ∃ m : Nat, n = (m : Int) := ⟨n.toNat, by omega⟩
        rw [ndAt_nat] at hz
        obtain ⟨b0, off, rfl, hbB, hcell⟩ := HR.out.at_ (by omega)
        have x0 := (hcell m (by omega)).1
        have HX := Lib.hid x0
        generalize (l.getD m deadN).1 = v at *
        by_cases h3 : 0 < v
        · rw [decide_eq_true ⟨h1, h2, h3⟩] at hz
          have h3' : (1 : Int) ≤ v := by omega
          subst hz
          clear hcell x0
          go_enter Tryz.func39, Tryz.ntmps39
          go_wp2_with fail
          refine hright.mono ?_
          rintro r w1 ⟨rfl, hb1⟩
          have H1 := HG.out.below7 hb1
          have t0 := H1.s0
          have y0 := Qt.keep H1.bel HX.out
          have HB := Lib.hid H1.bel
          clear hb1 hright s0 s1 H1
          go_wp2_with fail
          go_ret
          exact ⟨rfl, HB.out⟩
        · rw [decide_eq_false (fun h => h3 h.2.2)] at hz
          subst hz
          have hd : decide ((1 : Int) ≤ v) = false := decide_eq_false (by omega)
          clear hcell x0
          go_enter Tryz.func39, Tryz.ntmps39
          go_wp2_with fail
          refine hright.mono ?_
          rintro r w1 ⟨rfl, hb1⟩
          have H1 := HG.out.below7 hb1
          have t0 := H1.s0
          have y0 := Qt.keep H1.bel HX.out
          have HB := Lib.hid H1.bel
          clear hb1 hright s0 s1 H1
          go_wp2_with fail
          go_ret
          exact ⟨rfl, HB.out⟩
      · rw [decide_eq_false (fun h => h2 h.2.1)] at hz
        subst hz
        go_enter Tryz.func39, Tryz.ntmps39
        go_wp2_with fail
        refine hright.mono ?_
        rintro r w1 ⟨rfl, hb1⟩
        have H1 := HG.out.below7 hb1
        have t0 := H1.s0
        have HB := Lib.hid H1.bel
        clear hb1 hright s0 s1 H1
        go_wp2_with fail
        go_ret
        exact ⟨rfl, HB.out⟩
    · rw [decide_eq_false (fun h => h1 h.1)] at hz
      subst hz
      go_enter Tryz.func39, Tryz.ntmps39
      go_wp2_with fail
      refine hright.mono ?_
      rintro r w1 ⟨rfl, hb1⟩
      have H1 := HG.out.below7 hb1
      have t0 := H1.s0
      have HB := Lib.hid H1.bel
      clear hb1 hright s0 s1 H1
      go_wp2_with fail
      go_ret
      exact ⟨rfl, HB.out⟩
  · have hq : right6 l room = false := by simpa using hq
    rw [hq, Bool.false_and] at hz
    rw [hq] at hright
    subst hz
    go_enter Tryz.func39, Tryz.ntmps39
    go_wp2_with fail
    refine hright.mono ?_
    rintro r w1 ⟨rfl, hb1⟩
    have H1 := HG.out.below7 hb1
    have t0 := H1.s0
    have HB := Lib.hid H1.bel
    clear hb1 hright s0 s1 H1
    go_wp2_with fail
    go_ret
    exact ⟨rfl, HB.out⟩

theorem ofR_cells {l : List Nd} {room : Int} {e n : Nat} (hr : Right6 l room) (hn : Is l (e + 1) n) (hp : ¬ 2000 < (l.getD n deadN).2.2) : cells7 l room (n : Int) = ((Cel.ofR (about7 l e n)).2, (Cel.ofR (about7 l e n)).1) ∧ (about7 l e n).length ≤ 2000 := by
  have h1 := flat_pop hr (e + 1) n (-(2 ^ e), -(2 ^ e)) hn
  have h2 : (about7 l e n).length ≤ 2000 := by unfold about7; omega
  have hh : hasB l (n : Int) = true := by
    unfold hasB
    rw [decide_eq_true_iff, ndAt_nat, hn.lev]
    have := hn.lt
    omega
  refine ⟨?_, h2⟩
  unfold cells7
  rw [if_pos (by rw [right_iff.2 hr, hh]; rfl), ndAt_nat, if_neg hp, hn.lev, show ((e + 1 : Nat) : Int).toNat - 1 = e by omega, Int.toNat_natCast]
  unfold Cel.ofR
  have h3 := Cel.length_setL (about7 l e n)
  by_cases ha : ((about7 l e n).any fun p => !Cel.inB p) = true
  · rw [if_pos ha, if_pos ha]
  · rw [if_neg ha, if_neg ha, if_neg (by omega)]
set_option maxHeartbeats 16000000 in
theorem refCells7_any (A : Option Addr) (l : List Nd) (c : Nat) (room n : Int) (w : World) (hR : RdN w w.heap.size A l) (hl : l.length ≤ 1000000) (hc : l.length ≤ c) (hw : ∀ i, i < l.length → -9223372036854775808 ≤ (l.getD i deadN).1 ∧ (l.getD i deadN).1 ≤ 9223372036854775807) :
    Calls Tryz.prog 12 #[storeV A l.length c room, .int .i64 n] w (CelR (cells7 l room n) w) := by
  have hG0 := storeAt_0 w A l.length c room
  have hmay := refMay7_any A l c room n _ ((hR.below hG0.bel (Nat.le_refl _)).more hG0.bel.size) hl hw
  have s0 := hG0.s0
  have s1 := hG0.s1
  have HG := Lib.hid hG0
  cases hb : (right6 l room && hasB l n) with
  | false =>
    rw [hb] at hmay
    have hz : cells7 l room n = ([], 1) := by unfold cells7; rw [hb]; rfl
    rw [hz]
    unfold storeV at hmay ⊢
    clear hz hR hw hb hG0
    go_enter Tryz.func12, Tryz.ntmps12
    go_wp2_with fail
    refine hmay.mono ?_
    rintro r w1 ⟨rfl, hb1⟩
    have H1 := Lib.hid (HG.out.below7 hb1)
    clear hb1 hmay s0 s1
    go_wp2_with fail
    go_ret2
    exact celR_nil H1.out.bel
  | true =>
    rw [hb] at hmay
    obtain ⟨hr, hh⟩ := Bool.and_eq_true_iff.1 hb
    have hr := right_iff.1 hr
    unfold hasB at hh
    rw [decide_eq_true_eq] at hh
    obtain ⟨h1, h2, h3⟩ := hh
    obtain ⟨m, rfl⟩ : ∃ m : Nat, n = (m : Int) := ⟨n.toNat, by omega⟩
    rw [ndAt_nat] at h3
    have hbd := right_bd hr m (by omega)
    obtain ⟨e, he⟩ : ∃ e : Nat, (l.getD m deadN).1 = (e : Int) + 1 := ⟨((l.getD m deadN).1 - 1).toNat, by omega⟩
    have hIs : Is l (e + 1) m := ⟨by omega, by rw [he]; omega⟩
    obtain ⟨b0, off, rfl, hbB, hcell⟩ := hR.at_ (by omega)
    have HX := Lib.hid (hcell m (by omega))
    have hmz : (m : Int) < (l.length : Int) := by omega
    by_cases hp : 2000 < (l.getD m deadN).2.2
    · have hz : cells7 l room (m : Int) = ([], 3) := by unfold cells7; rw [if_pos hb, ndAt_nat, if_pos hp]
      rw [hz]
      unfold storeV at hmay ⊢
      have hp2 : (2000 : Int) < (l.getD m deadN).2.2 := hp
      clear hz hR hw hb hG0 hIs he hbd hr hcell
      obtain ⟨x0, x1, x2, x3, x4, x5⟩ := HX.out
      generalize (l.getD m deadN).2.2 = pp at *
      have HX5 := Lib.hid x5
      clear x0 x1 x2 x3 x4 x5 HX
      go_enter Tryz.func12, Tryz.ntmps12
      go_wp2_with fail
      refine hmay.mono ?_
      rintro r w1 ⟨rfl, hb1⟩
      have H1 := Lib.hid (HG.out.below7 hb1)
      have t0 := H1.out.s0
      have y5 := Qt.keep H1.out.bel HX5.out
      clear hb1 hmay s0 s1
      go_wp2_with fail
      go_ret2
      exact celR_nil H1.out.bel
    · obtain ⟨hz, hlen⟩ := ofR_cells hr hIs hp
      rw [hz]
      have hof := fun W (hW : RdN W W.heap.size (some ⟨b0, off, none⟩) l) => refOf7_any l hr (some ⟨b0, off, none⟩) c room e m W (by omega) hIs hW (by omega)
      have HRR := Lib.hid hR
      have HOF := Lib.hid hof
      unfold storeV at hmay HOF ⊢
      obtain ⟨x0, x1, x2, x3, x4, x5⟩ := HX.out
      generalize (l.getD m deadN).2.2 = pp at *
      have HX5 := Lib.hid x5
      generalize about7 l e m = F at *
      have hF9 : F.length ≤ 900000 := by omega
      clear hz hR hw hb hG0 hIs he hbd hr hcell hof x0 x1 x2 x3 x4 x5 HX
      go_enter Tryz.func12, Tryz.ntmps12
      go_wp2_with fail
      refine hmay.mono ?_
      rintro r w1 ⟨rfl, hb1⟩
      have H1 := Lib.hid (HG.out.below7 hb1)
      have t0 := H1.out.s0
      have t1 := H1.out.s1
      have y5 := Qt.keep H1.out.bel HX5.out
      have hc1 := HOF.out w1 ((HRR.out.below H1.out.bel (Nat.le_refl _)).more H1.out.bel.size)
      clear hb1 hmay s0 s1 HOF
      go_wp2_with fail
      refine hc1.mono ?_
      rintro r w2 ⟨A2, c2, rfl, hc2, hR2, hb2⟩
      have hc3 := Cel.refOf_any A2 F c2 w2 hR2 hF9 hc2
      have HB2 := Lib.hid (Qt.more H1.out.bel H1.out.bel.size hb2)
      clear hc1 hb2 hR2 t0 t1 y5 H1
      go_wp2_with fail
      refine hc3.mono ?_
      rintro r w3 ⟨v, rfl, ⟨A3, c3, rfl, hc4, hR3⟩, hb3⟩
      have HB3 := Lib.hid (Qt.more HB2.out HB2.out.size hb3)
      have HR3 := Lib.hid hR3
      clear hc3 hb3 hR3 HB2
      go_wp2_with fail
      go_ret2
      exact ⟨A3, c3, rfl, hc4, HR3.out, HB3.out⟩

/-! ### quarters -/
/-- half of a square's side -/
def hfK : Nat → Int
  | 0 => 0
  | k + 1 => 2 ^ k
/-- which quarter a cell is in, about the middle -/
def qrK (c : Int × Int) : Nat := (if 0 ≤ c.1 then 1 else 0) + (if 0 ≤ c.2 then 2 else 0)
/-- where it is there, about that one's middle -/
def qrD (k : Nat) (c : Int × Int) : Int × Int := (if 0 ≤ c.1 then c.1 - hfK k else c.1 + hfK k, if 0 ≤ c.2 then c.2 - hfK k else c.2 + hfK k)
def hfC (k : Nat) (c : Int × Int) : Int × Int := (c.1 + hfK k, c.2 + hfK k)
theorem qrK_lt (c : Int × Int) : qrK c < 4 := by unfold qrK; split <;> split <;> omega
theorem q7_qr {k : Nat} {c : Int × Int} (h : insideB k c = true) : q7 k (inwardC k c) = qrK c := by
  have h' := of_decide_eq_true h
  have hp := pow_pos7 k
  have key : ∀ x : Int, -(2 ^ k) ≤ x → x < 2 ^ k → (x + 2 ^ k) / 2 ^ k % 2 = if 0 ≤ x then 1 else 0 := fun x h0 h1 => by
    by_cases hx : 0 ≤ x
    · rw [if_pos hx, div_one hp (by omega) (by omega)]; rfl
    · rw [if_neg hx, div_zero (by omega) (by omega)]; rfl
  unfold q7 inwardC qrK
  simp only
  rw [key c.1 h'.1 h'.2.1, key c.2 h'.2.2.1 h'.2.2.2]
  split <;> split <;> rfl
theorem agree_qr (k : Nat) (c : Int × Int) : Agree k (hfC k (qrD k c)) (inwardC k c) := by
  cases k with
  | zero => exact fun j hj => absurd hj (Nat.not_lt_zero j)
  | succ k =>
    have e2 : (2 : Int) ^ (k + 1) = 2 ^ k * 2 := Int.pow_succ _ _
    have h := agree_shift (inwardC (k + 1) c) (if 0 ≤ c.1 then -1 else 0) (if 0 ≤ c.2 then -1 else 0) (k + 1)
    have e : hfC (k + 1) (qrD (k + 1) c) = ((inwardC (k + 1) c).1 + 2 ^ (k + 1) * (if 0 ≤ c.1 then -1 else 0), (inwardC (k + 1) c).2 + 2 ^ (k + 1) * (if 0 ≤ c.2 then -1 else 0)) := by
      unfold hfC qrD inwardC hfK
      rw [e2]
      refine Prod.ext ?_ ?_
      · by_cases hx : 0 ≤ c.1
        · simp only [if_pos hx]; omega
        · simp only [if_neg hx]; omega
      · by_cases hx : 0 ≤ c.2
        · simp only [if_pos hx]; omega
        · simp only [if_neg hx]; omega
    rw [e]
    exact h
/-- a cell is in a square of a level, told from its middle -/
def InK : Nat → Int × Int → Prop
  | 0, c => -1 ≤ c.1 ∧ c.1 ≤ 1 ∧ -1 ≤ c.2 ∧ c.2 ≤ 1
  | k + 1, c => insideB k c = true
theorem inK_qr {k : Nat} {c : Int × Int} (h : insideB k c = true) : InK k (qrD k c) := by
  have h' := of_decide_eq_true h
  cases k with
  | zero =>
    rw [show (2 : Int) ^ 0 = 1 from rfl] at h'
    show -1 ≤ (if 0 ≤ c.1 then c.1 - 0 else c.1 + 0) ∧ (if 0 ≤ c.1 then c.1 - 0 else c.1 + 0) ≤ 1 ∧ -1 ≤ (if 0 ≤ c.2 then c.2 - 0 else c.2 + 0) ∧ (if 0 ≤ c.2 then c.2 - 0 else c.2 + 0) ≤ 1
    split <;> split <;> omega
  | succ k =>
    rw [show (2 : Int) ^ (k + 1) = 2 ^ k * 2 from Int.pow_succ _ _] at h'
    show insideB k (if 0 ≤ c.1 then c.1 - 2 ^ k else c.1 + 2 ^ k, if 0 ≤ c.2 then c.2 - 2 ^ k else c.2 + 2 ^ k) = true
    unfold insideB
    generalize (2 : Int) ^ k = P at *
    split <;> split <;> exact decide_eq_true (by simp only; omega)
theorem alive_qr {l : List Nd} {k n : Nat} {c : Int × Int} (h : insideB k c = true) : alive l (k + 1) n (hfC (k + 1) c) = alive l k (kidN l n (qrK c)) (hfC k (qrD k c)) := by
  show alive l k (kidN l n (q7 k (inwardC k c))) (inwardC k c) = _
  rw [q7_qr h, alive_agree k _ (agree_qr k c)]
end Go.Proofs.YtmmaeikeafemaaaGreat
namespace Go.Proofs.YtmmaeikeafemaaaGreat
set_option maxRecDepth 100000
set_option linter.unusedVariables false
set_option linter.unusedSimpArgs false
open Go.RowKit Go.Sort

/-- what the document's boxes answers: where a square is empty the place of its box is not the program's, its width is -/
def BxsR (l : List Nd) (m : Nat) (w : World) (r : Ending) (w' : World) : Prop := ∃ q o N, ∃ g : Nat → Bx, r = .returned (.slice (some ⟨q, o, none⟩) (m + 1) N) ∧ (∀ i, i ≤ m → (g i).2.2.1 = (boxF l i).2.2.1 ∧ (¬ (boxF l i).2.2.1 = 0 → g i = boxF l i)) ∧ (∀ i, i ≤ m → w'.cell? ⟨q, o + i * 4, none⟩ = some (.int .i64 (g i).1) ∧ w'.cell? ⟨q, o + i * 4 + 1, none⟩ = some (.int .i64 (g i).2.1) ∧ w'.cell? ⟨q, o + i * 4 + 2, none⟩ = some (.int .i64 (g i).2.2.1) ∧ w'.cell? ⟨q, o + i * 4 + 3, none⟩ = some (.int .i64 (g i).2.2.2)) ∧ Below w.heap.size w w'
set_option maxHeartbeats 16000000 in
theorem refBox7_of (A : Option Addr) (l : List Nd) (c : Nat) (room n : Int) (w : World) (hR : RdN w w.heap.size A l) (hl : l.length ≤ 1000000) (hc : l.length ≤ c) (hw : ∀ i, i < l.length → -9223372036854775808 ≤ (l.getD i deadN).1 ∧ (l.getD i deadN).1 ≤ 9223372036854775807)
    (hbx : Right6 l room → ∀ m W, m < l.length → RdN W W.heap.size A l → Calls Tryz.prog 44 #[storeV A l.length c room, .int .i64 (m : Nat)] W (BxsR l m W))
    (hnz : Right6 l room → ∀ m, m < l.length → ¬ (l.getD m deadN).2.2 = 0 → ¬ (boxF l m).2.2.1 = 0) :
    Calls Tryz.prog 14 #[storeV A l.length c room, .int .i64 n] w (BoxR (box7 l room n (hasB l n)) w) := by
  have hG0 := bbAt_0 w A l.length c room
  have hmay := refMay7_any A l c room n _ ((hR.below hG0.st.bel (Nat.le_refl _)).more hG0.st.bel.size) hl hw
  have s0 := hG0.st.s0
  have s1 := hG0.st.s1
  have HG := Lib.hid hG0
  have HRR := Lib.hid hR
  have hno : ∀ wr, BbAt w wr A l.length c room → Hid ((wr.cell? ⟨w.heap.size + 1, 0, none⟩ = some (.int .i64 0) ∧ wr.cell? ⟨w.heap.size + 1, 1, none⟩ = some (.int .i64 0) ∧ wr.cell? ⟨w.heap.size + 1, 2, none⟩ = some (.int .i64 0) ∧ wr.cell? ⟨w.heap.size + 1, 3, none⟩ = some (.int .i64 0)) ∧ ∀ y : Bx, ((((wr.setCell ⟨w.heap.size + 1, 0, none⟩ (.int .i64 y.1)).setCell ⟨w.heap.size + 1, 1, none⟩ (.int .i64 y.2.1)).setCell ⟨w.heap.size + 1, 2, none⟩ (.int .i64 y.2.2.1)).setCell ⟨w.heap.size + 1, 3, none⟩ (.int .i64 y.2.2.2)).heap[w.heap.size + 1]? = some (.cells #[.int .i64 y.1, .int .i64 y.2.1, .int .i64 y.2.2.1, .int .i64 y.2.2.2] 45 (0, 0)) ∧ Below w.heap.size w ((((wr.setCell ⟨w.heap.size + 1, 0, none⟩ (.int .i64 y.1)).setCell ⟨w.heap.size + 1, 1, none⟩ (.int .i64 y.2.1)).setCell ⟨w.heap.size + 1, 2, none⟩ (.int .i64 y.2.2.1)).setCell ⟨w.heap.size + 1, 3, none⟩ (.int .i64 y.2.2.2))) := by
    intro wr h
    have hle : w.heap.size ≤ w.heap.size + 1 := by omega
    exact ⟨h.res.c, fun y => ⟨h.res.told y, (((h.st.bel.setCell hle _).setCell hle _).setCell hle _).setCell hle _⟩⟩
  have HNO := Lib.hid hno
  clear hno
  cases hb : (right6 l room && hasB l n) with
  | false =>
    rw [hb] at hmay
    have hz : box7 l room n (hasB l n) = ((0, 0, 0, 0), false) := by unfold box7; rw [hb]; rfl
    rw [hz]
    unfold storeV at hmay ⊢
    clear hz hR hw hb hG0 hbx hnz
    go_enter Tryz.func14, Tryz.ntmps14
    go_wp2_with fail
    refine hmay.mono ?_
    rintro r w1 ⟨rfl, hb1⟩
    have H1 := Lib.hid (HG.out.below hb1)
    have H2 := HNO.out w1 H1.out
    obtain ⟨r0, r1, r2, r3⟩ := H2.out.1
    have f0 := H1.out.res.f 0
    have f1 := H1.out.res.f 1
    have f2 := H1.out.res.f 2
    have f3 := H1.out.res.f 3
    clear hb1 hmay s0 s1
    go_wp2_with fail
    refine bodyPost_ret (results_cell2 rfl _ _ _ _ _ _ _ rfl (H2.out.2 (0, 0, 0, 0)).1 Tryz.underlying45 rfl (by kernel_rfl)) rfl ?_
    exact ⟨rfl, (H2.out.2 (0, 0, 0, 0)).2⟩
  | true =>
    rw [hb] at hmay
    obtain ⟨hr0, hhs⟩ := Bool.and_eq_true_iff.1 hb
    have hR6 := right_iff.1 hr0
    have hh := hhs
    unfold hasB at hh
    rw [decide_eq_true_eq] at hh
    obtain ⟨h1, h2, h3⟩ := hh
    obtain ⟨m, rfl⟩ : ∃ m : Nat, n = (m : Int) := ⟨n.toNat, by omega⟩
    rw [ndAt_nat] at h3
    have hbd := right_bd hR6 m (by omega)
    obtain ⟨e, he⟩ : ∃ e : Nat, (l.getD m deadN).1 = (e : Int) + 1 := ⟨((l.getD m deadN).1 - 1).toNat, by omega⟩
    have he41 : e ≤ 41 := by omega
    have hz : box7 l room (m : Int) (hasB l m) = if (l.getD m deadN).2.2 = 0 then ((0, 0, 0, 0), false) else (shift7 (boxF l m) (-(2 ^ e)) (-(2 ^ e)), true) := by
      unfold box7 boxF
      rw [hr0, hhs, ndAt_nat, he, show ((e : Int) + 1).toNat = e + 1 by omega, show e + 1 - 1 = e by omega, Int.toNat_natCast]
      generalize (l.getD m deadN).2.2 = pq
      by_cases h : pq = 0
      · rw [if_pos h, if_neg (by simp [h])]
      · rw [if_neg h, if_pos (by simp [h])]
    have hmz : (m : Int) < (l.length : Int) := by omega
    have hgood : GoodB (2 ^ (e + 1)) (boxF l m) := by
      unfold boxF
      rw [he, show ((e : Int) + 1).toNat = e + 1 by omega]
      exact boxN_good l (e + 1) m
    have hbx := fun W (hW : RdN W W.heap.size A l) => hbx hR6 m W (by omega) hW
    have HNZ := Lib.hid (hnz hR6 m (by omega))
    clear hnz
    obtain ⟨b0, off, rfl, hbB, hcell⟩ := hR.at_ (by omega)
    obtain ⟨x0, _, _, _, _, x5⟩ := hcell m (by omega)
    rw [he] at x0
    have HX := Lib.hid x0
    have HBX := Lib.hid hbx
    have HGB := Lib.hid hgood
    rw [hz]
    have HX5 := Lib.hid x5
    clear hz hR hw hb hG0 hcell x0 x5 h1 h2 h3 hbd he hhs hr0 hR6 hbB hl hbx hgood
    generalize (l.getD m deadN).2.2 = pp at *
    by_cases hp : pp = 0
    · subst hp
      rw [if_pos rfl]
      unfold storeV at hmay ⊢
      go_enter Tryz.func14, Tryz.ntmps14
      go_wp2_with fail
      refine hmay.mono ?_
      rintro r w1 ⟨rfl, hb1⟩
      have H1 := Lib.hid (HG.out.below hb1)
      have t0 := H1.out.st.s0
      have t1 := H1.out.st.s1
      have y5 := Qt.keep H1.out.st.bel HX5.out
      have H2 := HNO.out w1 H1.out
      obtain ⟨r0, r1, r2, r3⟩ := H2.out.1
      have f0 := H1.out.res.f 0
      have f1 := H1.out.res.f 1
      have f2 := H1.out.res.f 2
      have f3 := H1.out.res.f 3
      clear hb1 hmay s0 s1
      go_wp2_with fail
      refine bodyPost_ret (results_cell2 rfl _ _ _ _ _ _ _ rfl (H2.out.2 (0, 0, 0, 0)).1 Tryz.underlying45 rfl (by kernel_rfl)) rfl ?_
      exact ⟨rfl, (H2.out.2 (0, 0, 0, 0)).2⟩
    · rw [if_neg hp]
      have hpd : decide (pp = 0) = false := decide_eq_false hp
      have hpb : (pp == 0) = false := beq_eq_false_iff_ne.2 hp
      unfold storeV at hmay HBX ⊢
      go_enter Tryz.func14, Tryz.ntmps14
      go_wp2_with fail
      refine hmay.mono ?_
      rintro r w1 ⟨rfl, hb1⟩
      have H1 := Lib.hid (HG.out.below hb1)
      have t0 := H1.out.st.s0
      have t1 := H1.out.st.s1
      have y0 := Qt.keep H1.out.st.bel HX.out
      have y5 := Qt.keep H1.out.st.bel HX5.out
      clear hb1 hmay s0 s1
      go_wp2_with fail
      have hpw : (2 : Int) ^ e ≤ 2199023255552 := pow_le7 (f := 41) he41
      have hpk := pow_pos7 e
      have e2 : (2 : Int) ^ (e + 1) = 2 ^ e * 2 := Int.pow_succ ..
      have hside : wrap64 ((2 : Int) ^ e) = 2 ^ e := by first | (unfold wrap64; omega) | (rw [show wrap64 ((2 : Int) ^ e) = IntKind.i64.wrap (2 ^ e) from rfl, IntKind.wrap_i64]; omega)
      rw [hside]
      have hgd := HGB.out
      refine (HBX.out w1 ((HRR.out.below H1.out.st.bel (Nat.le_refl _)).more H1.out.st.bel.size)).mono ?_
      rintro r w2 ⟨q, o, N, g, rfl, hga, hra, hb2⟩
      have H3 := Lib.hid (H1.out.below hb2)
      have hgm := (hga m (Nat.le_refl m)).2 (HNZ.out hp)
      have hrow := hra m (Nat.le_refl m)
      rw [hgm] at hrow
      clear hgm hga hra
      obtain ⟨b0', b1', b2', b3'⟩ := hrow
      have hmn : (m : Int) < ((m + 1 : Nat) : Int) := by omega
      have hmn2 : (m : Int) < (m : Int) + 1 := by omega
      unfold shift7
      generalize boxF l m = bb at *
      obtain ⟨bx, by_, bw, bh⟩ := bb
      dsimp only at b0' b1' b2' b3'
      unfold GoodB at hgd
      dsimp only at hgd
      generalize (2 : Int) ^ (e + 1) = M2 at *
      generalize (2 : Int) ^ e = M at *
      have hw1 : IntKind.i64.wrap (bx - M) = bx + -M := by rw [IntKind.wrap_i64]; omega
      have hw2 : IntKind.i64.wrap (by_ - M) = by_ + -M := by rw [IntKind.wrap_i64]; omega
      have H4 := Lib.hid (H3.out.below ((Below.refl w2.heap.size w2).alloc (Nat.le_refl _) (.cells #[.int .i64 bx, .int .i64 by_, .int .i64 bw, .int .i64 bh] 45)))
      obtain ⟨v0, v1, v2, v3⟩ := (show BR (w2.alloc (.cells #[.int .i64 bx, .int .i64 by_, .int .i64 bw, .int .i64 bh] 45)) w2.heap.size (bx, by_, bw, bh) from heap_new rfl).c
      have H2 := HNO.out _ H4.out
      obtain ⟨r0, r1, r2, r3⟩ := H2.out.1
      have f0 := H4.out.res.f 0
      have f1 := H4.out.res.f 1
      have f2 := H4.out.res.f 2
      have f3 := H4.out.res.f 3
      clear hb2 t0 t1 y0 y5 hside HNZ HBX HGB HX HX5 hgd
      go_wp2_with fail
      clear r0 r1 r2 r3 f0 f1 f2 f3 v0 v1 v2 v3 b0' b1' b2' b3'
      refine bodyPost_ret (results_cell2 rfl _ _ _ _ _ _ _ rfl (H2.out.2 (bx + -M, by_ + -M, bw, bh)).1 Tryz.underlying45 rfl (by kernel_rfl)) rfl ?_
      exact ⟨rfl, (H2.out.2 (bx + -M, by_ + -M, bw, bh)).2⟩
end Go.Proofs.YtmmaeikeafemaaaGreat
namespace Go.Proofs.YtmmaeikeafemaaaGreat
set_option linter.unusedVariables false
set_option linter.unusedSimpArgs false

/-- as wide, and the same where it is not empty -/
def SameB (a b : Bx) : Prop := a.2.2.1 = b.2.2.1 ∧ (¬ b.2.2.1 = 0 → a = b)
/-- the document's step: what was so far, the next quarter's box -/
def stepB (b q : Bx) : Bx :=
  if q.2.2.1 = 0 then b else
    (min (if b.2.2.1 = 0 then q else b).1 q.1, min (if b.2.2.1 = 0 then q else b).2.1 q.2.1,
      max ((if b.2.2.1 = 0 then q else b).1 + (if b.2.2.1 = 0 then q else b).2.2.1) (q.1 + q.2.2.1) - min (if b.2.2.1 = 0 then q else b).1 q.1,
      max ((if b.2.2.1 = 0 then q else b).2.1 + (if b.2.2.1 = 0 then q else b).2.2.2) (q.2.1 + q.2.2.2) - min (if b.2.2.1 = 0 then q else b).2.1 q.2.1)
theorem SameB.rfl_ (a : Bx) : SameB a a := ⟨rfl, fun _ => rfl⟩
theorem SameB.step {a a' b b' : Bx} (ha : SameB a a') (hb : SameB b b') : SameB (stepB a b) (both7 a' b') := by
  unfold stepB both7
  by_cases h : b'.2.2.1 = 0
  · rw [if_pos (hb.1.trans h)]
    by_cases h' : a'.2.2.1 = 0
    · rw [if_pos h']
      exact ⟨by rw [ha.1, h', h], fun hn => absurd h hn⟩
    · rw [if_neg h', if_pos h]
      exact ha
  · obtain rfl := hb.2 h
    rw [if_neg h]
    by_cases h' : a'.2.2.1 = 0
    · rw [if_pos h']
      simp only [if_pos (ha.1.trans h')]
      obtain ⟨x, y, u, v⟩ := b
      simp only [Int.min_self, Int.max_self]
      have e1 : x + u - x = u := by omega
      have e2 : y + v - y = v := by omega
      rw [e1, e2]
      exact SameB.rfl_ _
    · obtain rfl := ha.2 h'
      simp only [if_neg h', if_neg h]
      exact SameB.rfl_ _
theorem both_w {M : Int} {a b : Bx} (ha : GoodB M a) (hb : GoodB M b) (h : ¬ a.2.2.1 = 0 ∨ ¬ b.2.2.1 = 0) : ¬ (both7 a b).2.2.1 = 0 := by
  unfold GoodB at ha hb
  unfold both7
  by_cases h1 : a.2.2.1 = 0
  · rw [if_pos h1]
    exact h.resolve_left (fun hn => hn h1)
  · rw [if_neg h1]
    by_cases h2 : b.2.2.1 = 0
    · rw [if_pos h2]; exact h1
    · rw [if_neg h2]
      dsimp only
      omega
theorem boxTo_nz (l : List Nd) (k n j : Nat) (h : ¬ (boxN l k (kidN l n j)).2.2.1 = 0) : ∀ i, i ≤ 4 → j < i → ¬ (boxTo l k n i).2.2.1 = 0
  | 0, _, hj => absurd hj (Nat.not_lt_zero _)
  | i + 1, hi, hj => by
    have hoff := off_bd k i (by omega)
    have hgs := shift_good (boxN_good l k (kidN l n i)) ⟨hoff.1, hoff.2.1⟩ ⟨hoff.2.2.1, hoff.2.2.2⟩
    rw [← Int.pow_succ] at hgs
    refine both_w (boxTo_good l k n i (by omega)) hgs ?_
    rcases (by omega : j < i ∨ j = i) with h' | rfl
    · exact .inl (boxTo_nz l k n j h i (by omega) h')
    · exact .inr h
/-- where a node counts cells its box is not empty -/
theorem boxN_nz {l : List Nd} {room : Int} (hr : Right6 l room) : ∀ (k n : Nat), Is l k n → ¬ (l.getD n deadN).2.2 = 0 → ¬ (boxN l k n).2.2.1 = 0
  | 0, n, h, hp => by
    have := h.zero hr
    rcases (by omega : n = 0 ∨ n = 1) with rfl | rfl
    · rw [hr.dead] at hp; exact absurd rfl hp
    · unfold boxN; rw [if_pos rfl]; exact by decide
  | k + 1, n, h, hp => by
    have hf := fits_iff.1 (hr.fits n (h.two hr) h.lt)
    have hk : ∀ i, i < 4 → (ndAt l (kd (l.getD n deadN).2.1 i)).2.2 = (l.getD (kidN l n i) deadN).2.2 ∧ 0 ≤ (l.getD (kidN l n i) deadN).2.2 := fun i hi => by
      rw [kid_cast hr h hi, ndAt_nat]
      exact ⟨rfl, by rw [flat_pop hr k _ (0, 0) (kid_is hr h hi)]; omega⟩
    rw [hf.pop, popTo_sum (fun i hi => by rw [(hk i hi).1]; exact (hk i hi).2)] at hp
    have h0 := hk 0 (by decide)
    have h1 := hk 1 (by decide)
    have h2 := hk 2 (by decide)
    have h3 := hk 3 (by decide)
    simp only [kd] at h0 h1 h2 h3
    rw [h0.1, h1.1, h2.1, h3.1] at hp
    have hj : ∃ j, j < 4 ∧ ¬ (l.getD (kidN l n j) deadN).2.2 = 0 := by
      by_cases e0 : (l.getD (kidN l n 0) deadN).2.2 = 0
      · by_cases e1 : (l.getD (kidN l n 1) deadN).2.2 = 0
        · by_cases e2 : (l.getD (kidN l n 2) deadN).2.2 = 0
          · exact ⟨3, by decide, fun e3 => hp (by rw [e0, e1, e2, e3]; rfl)⟩
          · exact ⟨2, by decide, e2⟩
        · exact ⟨1, by decide, e1⟩
      · exact ⟨0, by decide, e0⟩
    obtain ⟨j, hj, hn⟩ := hj
    rw [← boxTo_all]
    exact boxTo_nz l k n j (boxN_nz hr k _ (kid_is hr h hj) hn) 4 (Nat.le_refl _) hj
theorem boxF_nz {l : List Nd} {room : Int} (hr : Right6 l room) (m : Nat) (hm : m < l.length) (hp : ¬ (l.getD m deadN).2.2 = 0) : ¬ (boxF l m).2.2.1 = 0 := by
  have hb := right_bd hr m hm
  exact boxN_nz hr _ m ⟨hm, by omega⟩ hp
end Go.Proofs.YtmmaeikeafemaaaGreat
namespace Go.Proofs.YtmmaeikeafemaaaGreat
set_option maxRecDepth 100000
set_option linter.unusedVariables false
set_option linter.unusedSimpArgs false
open Go.RowKit Go.Sort

/-! ### rows of boxes -/
abbrev noBx : Bx := (0, 0, 0, 0)
def cellsB (x : Bx) : List Value := [.int .i64 x.1, .int .i64 x.2.1, .int .i64 x.2.2.1, .int .i64 x.2.2.2]
def flB (l : List Bx) : List Value := l.flatMap cellsB
theorem flB_append (l m : List Bx) : flB (l ++ m) = flB l ++ flB m := by unfold flB; simp
theorem flB_get (l : List Bx) (j : Nat) (h : j < l.length) : (flB l)[j * 4]? = some (.int .i64 (l.getD j noBx).1) ∧ (flB l)[j * 4 + 1]? = some (.int .i64 (l.getD j noBx).2.1) ∧ (flB l)[j * 4 + 2]? = some (.int .i64 (l.getD j noBx).2.2.1) ∧ (flB l)[j * 4 + 3]? = some (.int .i64 (l.getD j noBx).2.2.2) := by
  induction l generalizing j with
  | nil => exact absurd h (Nat.not_lt_zero j)
  | cons x l ih =>
    cases j with
    | zero => simp [flB, cellsB]
    | succ j =>
      have := ih j (by simpa using h)
      have e1 : (j + 1) * 4 = j * 4 + 1 + 1 + 1 + 1 := by omega
      have e2 : flB (x :: l) = .int .i64 x.1 :: .int .i64 x.2.1 :: .int .i64 x.2.2.1 :: .int .i64 x.2.2.2 :: flB l := rfl
      rw [e1, e2]
      simpa using this
abbrev OwnBx (w : World) (B : Nat) (v : Value) (l : List Bx) : Prop := w.ownsRow B 45 4 v l.length (flB l)
def BxAt (w : World) (b o : Nat) (x : Bx) : Prop := w.cell? ⟨b, o, none⟩ = some (.int .i64 x.1) ∧ w.cell? ⟨b, o + 1, none⟩ = some (.int .i64 x.2.1) ∧ w.cell? ⟨b, o + 2, none⟩ = some (.int .i64 x.2.2.1) ∧ w.cell? ⟨b, o + 3, none⟩ = some (.int .i64 x.2.2.2)
theorem OwnBx.below {w w' : World} {B : Nat} {v : Value} {l : List Bx} (h : OwnBx w B v l) (hb : Below w.heap.size w w') : OwnBx w' B v l :=
  World.ownsRow.kept h (row := none) ⟨hb.os, hb.tape, hb.output, hb.size, fun k hk _ => hb.block k hk⟩ (by cases v.ownBlock <;> simp)
theorem OwnBx.some_ {w : World} {B : Nat} {v : Value} {l : List Bx} (h : OwnBx w B v l) (hn : 0 < l.length) : ∃ g cap, v = .slice (some ⟨g, 0, none⟩) l.length cap ∧ B ≤ g ∧ g < w.heap.size ∧ ∀ j, j < l.length → BxAt w g (j * 4) (l.getD j noBx) := by
  have h' := h
  rcases h.2 with ⟨rfl, h0⟩ | ⟨g, cap, cur, rfl, hb, hh, hn', hcap, hsz, htake⟩
  · omega
  · refine ⟨g, cap, rfl, (World.ownsRow.lt h g rfl).1, (World.ownsRow.lt h g rfl).2, fun j hj => ?_⟩
    obtain ⟨f0, f1, f2, f3⟩ := flB_get l j hj
    exact ⟨(World.ownsRow.cellAt h (j * 4) (by omega)).trans f0, (World.ownsRow.cellAt h (j * 4 + 1) (by omega)).trans f1, (World.ownsRow.cellAt h (j * 4 + 2) (by omega)).trans f2, (World.ownsRow.cellAt h (j * 4 + 3) (by omega)).trans f3⟩
theorem pushB_any {w : World} {B : Nat} {v : Value} {out : List Bx} (x : Bx) (hB : B ≤ w.heap.size) (ho : OwnBx w B v out) (hl : out.length ≤ 999999) :
    ∃ v' w', (Builtin.append_ #[77, 77] 77 #[v, .slice (some ⟨w.heap.size, 0, none⟩) 1 1]).run Tryz.prog (w.alloc (.cells #[.int .i64 x.1, .int .i64 x.2.1, .int .i64 x.2.2.1, .int .i64 x.2.2.2] 45)) = .ok v' w' ∧ OwnBx w' B v' (out ++ [x]) ∧ Below B w w' := by
  obtain ⟨i0, hi, hz0, hz1, hz2⟩ := info_parts infoBox
  have ho' : OwnBx (w.alloc (.cells #[.int .i64 x.1, .int .i64 x.2.1, .int .i64 x.2.2.1, .int .i64 x.2.2.2] 45)) B v out := World.ownsRow.alloc ho _
  have hone : ∀ u ∈ cellsB x, u.oneCell' = true := fun u hu => by
    simp only [cellsB, List.mem_cons, List.not_mem_nil, or_false] at hu
    rcases hu with rfl | rfl | rfl | rfl <;> rfl
  have hnew : ∀ j u, (cellsB x)[j]? = some u → (w.alloc (.cells #[.int .i64 x.1, .int .i64 x.2.1, .int .i64 x.2.2.1, .int .i64 x.2.2.2] 45)).cell? ((⟨w.heap.size, 0, none⟩ : Addr).add j) = some u := fun j u hu => by
    have hlt : j < 4 := by
      rcases Nat.lt_or_ge j 4 with h | h
      · exact h
      · rw [List.getElem?_eq_none (by simpa [cellsB] using h)] at hu; cases hu
    rw [Addr.add_lit, Nat.zero_add, Lib.cell_of_heap (heap_alloc_new w _)]
    rcases (by omega : j = 0 ∨ j = 1 ∨ j = 2 ∨ j = 3) with rfl | rfl | rfl | rfl <;> exact hu
  obtain ⟨v', w', hr, h2, h3, _⟩ := run_append_own (P := Tryz.prog) (w := w.alloc (.cells #[.int .i64 x.1, .int .i64 x.2.1, .int .i64 x.2.2.1, .int .i64 x.2.2.2] 45)) B 77 77 45 i0 (.agg #[.int .i64 0, .int .i64 0, .int .i64 0, .int .i64 0]) 4 32 Tryz.underlying77 hi hz0 hz1 hz2 rfl (by decide) v out.length (flB out) ho' ⟨w.heap.size, 0, none⟩ 1 1 (cellsB x) rfl hnew hone (by unfold maxLen; omega) (by omega) (by simp; omega)
  refine ⟨v', w', hr, ?_, Below.grown ((Below.refl _ _).alloc hB _) h3 (by simp; omega) (fun k e => (World.ownsRow.lt ho' k e).1)⟩
  show World.ownsRow _ _ _ _ _ _ (flB (out ++ [x]))
  rw [flB_append, List.length_append]
  have : flB [x] = cellsB x := by simp [flB]
  rw [this]
  exact h2

/-! ### what the document's boxes are -/
/-- an empty box has no place -/
def empB (b : Bx) : Bx := if b.2.2.1 = 0 then (0, 0, 0, 0) else b
theorem zero_w (b : Bx) : (empB b).2.2.1 = b.2.2.1 := by
  unfold empB
  split
  · next h => exact h.symm
  · rfl
theorem zero_good {M : Int} {b : Bx} (hM : 0 ≤ M) (h : GoodB M b) : GoodB M (empB b) := by
  unfold empB
  split
  · unfold GoodB; dsimp only; omega
  · exact h
theorem step_zero {M : Int} {a b : Bx} {x y : Int} (ha : GoodB M a) (hb : GoodB M (shift7 b x y)) : stepB (empB a) (shift7 (empB b) x y) = empB (both7 a (shift7 b x y)) := by
  unfold stepB
  have e1 : (shift7 (empB b) x y).2.2.1 = b.2.2.1 := zero_w b
  by_cases h : b.2.2.1 = 0
  · rw [if_pos (e1.trans h)]
    have hw : (shift7 b x y).2.2.1 = 0 := h
    unfold both7
    by_cases h' : a.2.2.1 = 0
    · rw [if_pos h']
      unfold empB
      rw [if_pos h', if_pos hw]
    · rw [if_neg h', if_pos hw]
  · rw [if_neg (by rw [e1]; exact h)]
    have ez : empB b = b := if_neg h
    rw [ez]
    have hw : ¬ (shift7 b x y).2.2.1 = 0 := h
    have hnz := both_w ha hb (.inr hw)
    have e2 : empB (both7 a (shift7 b x y)) = both7 a (shift7 b x y) := if_neg hnz
    rw [e2]
    obtain ⟨u, hu⟩ : ∃ u, u = shift7 b x y := ⟨_, rfl⟩
    rw [← hu] at hw ⊢
    by_cases h' : a.2.2.1 = 0
    · have ea : (empB a).2.2.1 = 0 := (zero_w a).trans h'
      unfold both7
      rw [if_pos h']
      simp only [if_pos ea]
      obtain ⟨p, q, r, s⟩ := u
      simp only [Int.min_self, Int.max_self]
      have e1 : p + r - p = r := by omega
      have e2 : q + s - q = s := by omega
      rw [e1, e2]
    · have ea : empB a = a := if_neg h'
      rw [ea]
      unfold both7
      simp only [if_neg h', if_neg hw]
/-- what boxes answers, so far -/
def bxsTo (l : List Nd) (j : Nat) : List Bx := (List.range j).map fun i => empB (boxF l i)
theorem bxs_len (l : List Nd) (j : Nat) : (bxsTo l j).length = j := by unfold bxsTo; simp
theorem bxs_get (l : List Nd) {i j : Nat} (h : i < j) : (bxsTo l j).getD i noBx = empB (boxF l i) := by
  unfold bxsTo
  simp [List.getD_eq_getElem?_getD, List.getElem?_map, List.getElem?_range h]
theorem bxs_succ (l : List Nd) (j : Nat) : bxsTo l (j + 1) = bxsTo l j ++ [empB (boxF l j)] := by unfold bxsTo; rw [List.range_succ, List.map_append]; rfl
end Go.Proofs.YtmmaeikeafemaaaGreat
