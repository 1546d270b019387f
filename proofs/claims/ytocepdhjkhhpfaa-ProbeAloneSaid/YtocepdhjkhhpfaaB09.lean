/-
  Texts that the claims of this seat share, part 9.
-/
import Derived.Test.YtocepdhjkhhpfaaB08
set_option linter.unusedVariables false
set_option linter.unusedSimpArgs false
namespace Go.Proofs.Ytocepdhjkhhpfaa
set_option maxRecDepth 100000
set_option linter.unusedVariables false
set_option linter.unusedSimpArgs false

def StepsP (S N c : Nat) (m : List Int) (L : List (Kd × Nat)) (F R : List Nat) (w : W8) : Prop :=
  ∃ c' m' L' F' w', StP S N c m L F R w c' m' L' F' w' ∧ lrkP S c' m' w' < lrkP S c m w ∧ ((c' = c ∧ hcP w' ≤ hcP w) ∨ (c' = c + 1 ∧ hcP w' + 1 ≤ hcP w))
theorem ChainO.same {o : Nat} {m m' : List Int} : ∀ {F : List Nat}, (∀ x ∈ F, m'.getD (o + x + 1) 0 = m.getD (o + x + 1) 0) → ChainO o m F → ChainO o m' F
  | [], _, _ => trivial
  | x :: r, he, h => ⟨(he x (by simp)).trans h.1, ChainO.same (fun y hy => he y (by simp [hy])) h.2⟩
theorem ReadH.H {n c : Nat} {F : List Nat} {r : Int} {k : Nat} {t : Int} (h : ReadH n c F r k t) (hn : n ≤ 1000) : hdH r = t := by
  obtain ⟨h1, h2, h3, h4, h5⟩ := h
  rw [h1]
  exact head_H h3 (by omega)
theorem ReadH.C {n c : Nat} {F : List Nat} {r : Int} {k : Nat} {t : Int} (h : ReadH n c F r k t) (hn : n ≤ 1000) : hdC r = k := by
  obtain ⟨h1, h2, h3, h4, h5⟩ := h
  rw [h1]
  exact head_C h3 (by omega)
section
variable {S N c : Nat} {m : List Int} {L : List (Kd × Nat)} {F R : List Nat} {w : W8}
/-- what is read of the head is what it is: the head is as it was -/
theorem ReadH.eq {k : Nat} {t : Int} {r : Int} (h : ReadH N c F r k t) (hf : FreeP S N c m F) (hn : N ≤ 1000) : (m.getD (S + 4 * N) 0 = r ∧ k = c ∧ t = topF F) ∨ (m.getD (S + 4 * N) 0 ≠ r ∧ k < c) := by
  obtain ⟨h1, h2, h3, h4, h5⟩ := h
  have ht := topF_bd hf.lt
  rw [hf.head, h1]
  by_cases hk : k = c
  · have := h5 hk
    exact .inl ⟨by rw [hk, this], hk, this⟩
  · exact .inr ⟨by omega, by omega⟩
theorem head_at (h : TabL S N m) (hpc : w.pc = 10 ∨ w.pc = 30) : accP S N w = (1, ((S + 4 * N : Nat) : Int), 0, 0) := by
  have e : ((S : Int) + 4 * (N : Int)) = ((S + 4 * N : Nat) : Int) := by omega
  rcases hpc with hpc | hpc
  · rw [accP_10 hpc, e]
  · rw [accP_30 hpc, e]
theorem TabI.readH {H : List Nat} (h : TabI S N c m L F H) : ReadH N c F (m.getD (S + 4 * N) 0) c (topF F) := by
  have ht := topF_bd h.free.lt
  exact ⟨h.free.head, Nat.le_refl _, ht.1, ht.2, fun _ => rfl⟩
theorem step_head (h : TabI S N c m L F (ownW w ++ R)) {p : Nat} (hd : w.done = false) (hpc : w.pc = 10) (hp : PathP S m w p) (h5 : w.r5 = 0) : ∃ w', StP S N c m L F R w c m L F w' ∧ lrkP S c m w' < lrkP S c m w ∧ hcP w' ≤ hcP w := by
  have hT := h.tab
  have hl := hT.len
  have hs2 := hT.s2
  have hn2 := hT.n2
  have hr4 : w.r4.toNat = p := by rw [hp.r4]; exact Int.toNat_natCast p
  have hst := stepP_load (S := S) (N := N) (m := m) (head_at hT (.inl hpc)) (by omega) (by omega)
  have hR := h.readH
  rw [behP_10 hpc, hR.H hn2] at hst
  by_cases ht : topF F = 0
  · rw [if_pos ht] at hst
    have hF : F = [] := by
      cases F with
      | nil => rfl
      | cons x r =>
        have : (x : Int) + 1 = 0 := ht
        omega
    exact end_ways (v := { w with r6 := m.getD (S + 4 * N) 0 }) rfl rfl hd hd (.inl h5) (.inl rfl) h hst (fun _ => .inr ⟨hF, h5⟩) (by rw [lrkP_10 hd hpc]; omega)
  · rw [if_neg ht] at hst
    have htb := topF_bd h.free.lt
    refine ⟨_, .quiet h hst rfl rfl (.next p c (topF F) hd rfl ⟨hp.r4, hp.lt, hp.lo⟩ h5 hR (by omega)) (fun e => .inl e), ?_, Nat.le_refl _⟩
    rw [lrkP_11 (w := { w with r6 := m.getD (S + 4 * N) 0, pc := 11 }) hd rfl, lrkP_10 hd hpc]
    show 8 * (S - w.r4.toNat) + 12 + (if hdC (m.getD (S + 4 * N) 0) < c then 3 else 0) < _
    rw [hR.C hn2, if_neg (by omega)]
    omega
theorem step_next (h : TabI S N c m L F (ownW w ++ R)) {p k : Nat} {t : Int} (hd : w.done = false) (hpc : w.pc = 11) (hp : PathP S m w p) (h5 : w.r5 = 0) (hr : ReadH N c F w.r6 k t) (ht : 1 ≤ t) : ∃ w', StP S N c m L F R w c m L F w' ∧ lrkP S c m w' < lrkP S c m w ∧ hcP w' ≤ hcP w := by
  have hT := h.tab
  have hl := hT.len
  have hs2 := hT.s2
  have hn2 := hT.n2
  have htN := hr.2.2.2.1
  obtain ⟨y, hy⟩ : ∃ y : Nat, t = (y : Int) + 1 := ⟨(t - 1).toNat, by omega⟩
  have hacc : accP S N w = (1, ((S + 4 * N + y + 1 : Nat) : Int), 0, 0) := by
    rw [accP_11 hpc, hr.H hn2, hy]
    have e : ((S : Int) + 4 * (N : Int) + ((y : Int) + 1)) = ((S + 4 * N + y + 1 : Nat) : Int) := by omega
    rw [e]
  have hst := stepP_load (S := S) (N := N) (m := m) hacc (by omega) (by omega)
  rw [behP_11 hpc] at hst
  have hlk := h.links y (by omega)
  have hty : S + 4 * N + t.toNat = S + 4 * N + y + 1 := by omega
  refine ⟨_, .quiet h hst rfl rfl (.pop p k t hd rfl ⟨hp.r4, hp.lt, hp.lo⟩ h5 hr ht hlk (fun _ => by rw [hty])) (fun e => .inl e), ?_, Nat.le_refl _⟩
  rw [lrkP_12 (w := { w with r7 := m.getD (S + 4 * N + y + 1) 0, pc := 12 }) hd rfl, lrkP_11 hd hpc]
  show 8 * (S - w.r4.toNat) + 11 + (if hdC w.r6 < c then 3 else 0) < _
  omega
theorem step_back (h : TabI S N c m L F (ownW w ++ R)) {n : Nat} (hd : w.done = false) (hpc : w.pc = 30) (h5 : w.r5 = (n : Int) + 1) (ho : OutL L w) : ∃ w', StP S N c m L F R w c m L F w' ∧ lrkP S c m w' < lrkP S c m w ∧ hcP w' ≤ hcP w := by
  have hT := h.tab
  have hl := hT.len
  have hs2 := hT.s2
  have hn2 := hT.n2
  have hst := stepP_load (S := S) (N := N) (m := m) (head_at hT (.inr hpc)) (by omega) (by omega)
  have hR := h.readH
  rw [behP_30 hpc] at hst
  refine ⟨_, .quiet h hst rfl rfl (.tell n c (topF F) hd rfl h5 ho hR) (fun e => .inl e), ?_, Nat.le_refl _⟩
  rw [lrkP_31 (w := { w with r6 := m.getD (S + 4 * N) 0, pc := 31 }) hd rfl, lrkP_30 hd hpc]
  show 2 + (if hdC (m.getD (S + 4 * N) 0) < c then 3 else 0) < _
  rw [hR.C hn2, if_neg (by omega)]
  omega
/-- a word of the free list or the head was set -/
theorem set_low {a : Nat} {v : Int} (ha : S + 4 * N ≤ a) : (∀ i, i < S → (m.set a v).getD i 0 = m.getD i 0) ∧ ∀ x, x < N → kdAt S (m.set a v) x = kdAt S m x := by
  refine ⟨fun i hi => by rw [getD_set8, if_neg (by omega)], fun x hx => kd_ext8 fun i hi => ?_⟩
  rw [← kdAt_get S (m.set a v) x hi, ← kdAt_get S m x hi, getD_set8, if_neg (by omega)]
theorem step_pop (h : TabI S N c m L F (ownW w ++ R)) (hc : c ≤ 1000000) {p k : Nat} {t : Int} (hd : w.done = false) (hpc : w.pc = 12) (hp : PathP S m w p) (h5 : w.r5 = 0) (hr : ReadH N c F w.r6 k t) (ht : 1 ≤ t) (h7 : 0 ≤ w.r7 ∧ w.r7 ≤ N) (hlk : k = c → w.r7 = m.getD (S + 4 * N + t.toNat) 0) : StepsP S N c m L F R w := by
  have hT := h.tab
  have hl := hT.len
  have hs2 := hT.s2
  have hn2 := hT.n2
  have hkc := hr.2.1
  have hH := hr.H hn2
  have hC := hr.C hn2
  have hacc : accP S N w = (3, ((S + 4 * N : Nat) : Int), w.r6, ((k : Int) + 1) * 1048576 + w.r7) := by
    rw [accP_12 hpc, hC]
    have e : ((S : Int) + 4 * (N : Int)) = ((S + 4 * N : Nat) : Int) := by omega
    rw [e]
  have hdo := doA_swapAt (m := m) (a := ((S + 4 * N : Nat) : Int)) (old := w.r6) (new := ((k : Int) + 1) * 1048576 + w.r7) (by omega) (by omega) (by omega) (by unfold WdI; omega)
  rw [Int.toNat_natCast] at hdo
  rcases hr.eq h.free hn2 with ⟨e1, e2, e3⟩ | ⟨e1, e2⟩
  · rw [if_neg (fun hne => hne e1)] at hdo
    have hlc := hlk e2
    cases F with
    | nil => rw [e3] at ht; exact absurd ht (by decide)
    | cons n r =>
      have htn : t = (n : Int) + 1 := e3
      have hnN : n < N := h.free.lt n (by simp)
      have h7t : w.r7 = topF r := by
        rw [hlc, show S + 4 * N + t.toNat = S + 4 * N + n + 1 by omega]
        exact h.free.chain.1
      obtain ⟨w', hw'⟩ : ∃ w', w' = { w with r5 := hdH w.r6, r7 := 0, pc := 13 } := ⟨_, rfl⟩
      have hst : stepP S N m w = (m.set (S + 4 * N) (((c : Int) + 1) * 1048576 + topF r), w', 0) := by
        unfold stepP
        rw [hacc, hdo]
        simp only
        rw [behP_12 hpc, if_pos rfl, ← hw', e2, h7t]
        rfl
      obtain ⟨g1, g2⟩ := set_low (S := S) (N := N) (m := m) (a := S + 4 * N) (v := ((c : Int) + 1) * 1048576 + topF r) (Nat.le_refl _)
      have k5 : w'.r5 = (n : Int) + 1 := by rw [hw', ← htn]; exact hH
      have kd' : w'.done = false := by rw [hw']; exact hd
      have kk : kdW8 w' = kdW8 w := by rw [hw']; rfl
      have k4 : w'.r4 = p := by rw [hw']; exact hp.r4
      have hlinks : ∀ x, (m.set (S + 4 * N) (((c : Int) + 1) * 1048576 + topF r)).getD (S + 4 * N + x + 1) 0 = m.getD (S + 4 * N + x + 1) 0 := fun x => by rw [getD_set8, if_neg (by omega)]
      have hown : ownW w' = [n] := ownW_some kd' k5
      have hown0 : ownW w = [] := ownW_none h5
      refine ⟨c + 1, _, L, r, w', ⟨hst, kk, ?_, ?_, ⟨fun i hi _ => g1 i hi, fun x hx => g2 _ (h.putLt hx), fun x hx => ⟨g2 _ (h.heldLt (List.mem_append.2 (.inr hx))), hlinks x⟩, fun x hx => hx, .inl (Nat.lt_succ_self _)⟩, .inl rfl, fun e => .inl ?_⟩, ?_, .inr ⟨rfl, ?_⟩⟩
      · rw [hown]
        refine h.next List.length_set g1 (fun x hx => g2 _ (h.putLt hx)) ⟨?_, ?_, fun x hx => h.free.lt x (by simp [hx])⟩ (fun x hx => by rw [hlinks]; exact h.links x hx) ?_
        · rw [getD_set8, if_pos ⟨rfl, by omega⟩]; push_cast; rfl
        · exact ChainO.same (fun x _ => hlinks x) h.free.chain.2
        · refine List.Perm.trans ?_ h.perm
          rw [hown0, List.nil_append, List.cons_append, List.nil_append]
          refine List.Perm.trans (List.Perm.append_left r List.perm_middle) ?_
          exact List.perm_middle
      · exact .kids p n 0 kd' (by rw [hw']) ⟨k4, hp.lt, fun i hi => by rw [kk]; exact h.other (fun i hi _ => g1 i hi) (fun x hx => g2 _ (h.putLt hx)) (hp.lo i hi)⟩ k5 (by rw [hw']; rfl) (by omega) (fun i hi => absurd hi (Nat.not_lt_zero i))
      · rw [hw'] at e; exact e
      · rw [lrkP_13 kd' (by rw [hw']), lrkP_12 hd hpc, k4, hp.r4, show w'.r7 = 0 by rw [hw']]
        omega
      · unfold hcP
        rw [if_neg (by rw [kd']; decide), if_neg (by rw [k5]; omega), if_neg (by rw [hd]; decide), if_pos h5]
        exact Nat.le_refl _
  · rw [if_pos e1] at hdo
    have hst : stepP S N m w = (m, { w with pc := 10 }, 0) := by
      unfold stepP
      rw [hacc, hdo]
      simp only
      rw [behP_12 hpc]
      rfl
    refine ⟨c, m, L, F, _, .quiet h hst rfl rfl (.head p hd rfl ⟨hp.r4, hp.lt, hp.lo⟩ h5) (fun e => .inl e), ?_, .inl ⟨rfl, Nat.le_refl _⟩⟩
    rw [lrkP_10 (w := { w with pc := 10 }) hd rfl, lrkP_12 hd hpc, hC, if_pos (by omega)]
    show 8 * (S - w.r4.toNat) + 13 < _
    omega
theorem step_kids (h : TabI S N c m L F (ownW w ++ R)) (hkw : ∀ i, i < 4 → WdI (kdH (kdW8 w) i)) {p n j : Nat} (hd : w.done = false) (hpc : w.pc = 13) (hp : PathP S m w p) (h5 : w.r5 = (n : Int) + 1) (h7 : w.r7 = j) (hj : j < 4) (he : ∀ i, i < j → kdH (kdAt S m n) i = kdH (kdW8 w) i) : StepsP S N c m L F R w := by
  have hT := h.tab
  have hl := hT.len
  have hs2 := hT.s2
  have hn2 := hT.n2
  have hown : ownW w = [n] := ownW_some hd h5
  have hnm : n ∈ ownW w ++ R := by rw [hown]; simp
  have hnN := h.heldLt hnm
  have hnR : ∀ x ∈ R, x ≠ n := fun x hx e => by
    have hdp := (List.nodup_append.1 (List.nodup_append.1 h.nodup).2.1).2.1
    rw [hown] at hdp
    exact (List.nodup_append.1 hdp).2.2 n (by simp) x hx e.symm
  have hr7 : w.r7.toNat = j := by rw [h7]; exact Int.toNat_natCast j
  have hr4 : w.r4.toNat = p := by rw [hp.r4]; exact Int.toNat_natCast p
  have hacc : accP S N w = (2, ((S + 4 * n + j : Nat) : Int), 0, kdH (kdW8 w) j) := by
    rw [accP_13 hpc, hr7]
    unfold kidP
    rw [h5, h7, if_neg (by omega)]
    have e : ((S : Int) + 4 * ((n : Int) + 1 - 1) + (j : Int)) = ((S + 4 * n + j : Nat) : Int) := by omega
    rw [e]
  have hdo := doA_write (m := m) (a := ((S + 4 * n + j : Nat) : Int)) (v := kdH (kdW8 w) j) (by omega) (by omega) (by omega) (hkw j hj)
  rw [Int.toNat_natCast] at hdo
  generalize hv : kdH (kdW8 w) j = v at *
  have hg : ∀ i, (m.set (S + 4 * n + j) v).getD i 0 = if i = S + 4 * n + j then v else m.getD i 0 := fun i => by
    rw [getD_set8]
    by_cases e : i = S + 4 * n + j
    · rw [if_pos e, if_pos ⟨e.symm, by omega⟩]
    · rw [if_neg e, if_neg (fun hc => e hc.1.symm)]
  have hle : (m.set (S + 4 * n + j) v).length = m.length := List.length_set
  have hst : stepP S N m w = (m.set (S + 4 * n + j) v, if w.r7 + 1 = 4 then { w with r7 := w.r7 + 1, pc := 20 } else { w with r7 := w.r7 + 1 }, 0) := by
    unfold stepP
    rw [hacc, hdo]
    simp only
    rw [behP_13 hpc]
    rfl
  generalize m.set (S + 4 * n + j) v = m' at *
  have g1 : ∀ i, i < S → m'.getD i 0 = m.getD i 0 := fun i hi => by rw [hg, if_neg (by omega)]
  have g2 : ∀ x, x < N → x ≠ n → kdAt S m' x = kdAt S m x := fun x hx hne => kd_ext8 fun i hi => by
    rw [← kdAt_get S m' x hi, ← kdAt_get S m x hi, hg, if_neg (by omega)]
  have g3 : ∀ i, i < j + 1 → kdH (kdAt S m' n) i = kdH (kdW8 w) i := fun i hi => by
    rw [← kdAt_get S m' n (show i < 4 by omega), hg]
    by_cases e : i = j
    · rw [if_pos (by omega), e, hv]
    · rw [if_neg (by omega), kdAt_get S m n (show i < 4 by omega)]
      exact he i (by omega)
  have hlinks : ∀ x, m'.getD (S + 4 * N + x + 1) 0 = m.getD (S + 4 * N + x + 1) 0 := fun x => by rw [hg, if_neg (by omega)]
  have hput : ∀ x ∈ L, kdAt S m' x.2 = kdAt S m x.2 := fun x hx => g2 _ (h.putLt hx) (h.heldPut hnm x hx)
  have hpath : PathP S m' w p := ⟨hp.r4, hp.lt, fun i hi => h.other (fun i hi _ => g1 i hi) hput (hp.lo i hi)⟩
  have htab : TabI S N c m' L F (ownW w ++ R) := h.next hle g1 hput ⟨by rw [hg, if_neg (by omega)]; exact h.free.head, ChainO.same (fun x _ => hlinks x) h.free.chain, h.free.lt⟩ (fun x hx => by rw [hlinks]; exact h.links x hx) h.perm
  have honw : Onw S N c m L F c m' L F R := ⟨fun i hi _ => g1 i hi, hput, fun x hx => ⟨g2 x (h.heldLt (List.mem_append.2 (.inr hx))) (hnR x hx), hlinks x⟩, fun x hx => hx, .inr ⟨rfl, rfl, fun x _ => hlinks x⟩⟩
  have hlr : lrkP S c m w = 8 * (S - p) + 10 - j := by rw [lrkP_13 hd hpc, hr4, hr7]
  by_cases hj4 : w.r7 + 1 = 4
  · rw [if_pos hj4] at hst
    refine ⟨c, m', L, F, _, ⟨hst, rfl, htab, .fill p n hd rfl ⟨hpath.r4, hpath.lt, hpath.lo⟩ h5 (kd_ext8 fun i hi => g3 i (by omega)), honw, .inl rfl, fun e => .inl e⟩, ?_, .inl ⟨rfl, Nat.le_refl _⟩⟩
    rw [lrkP_20 (w := { w with r7 := w.r7 + 1, pc := 20 }) hd rfl, hlr]
    show 8 * (S - w.r4.toNat) + 6 < _
    rw [hr4]
    omega
  · rw [if_neg hj4] at hst
    refine ⟨c, m', L, F, _, ⟨hst, rfl, htab, .kids p n (j + 1) hd hpc ⟨hpath.r4, hpath.lt, hpath.lo⟩ h5 (by show w.r7 + 1 = _; rw [h7]; omega) (by omega) g3, honw, .inl rfl, fun e => .inl e⟩, ?_, .inl ⟨rfl, Nat.le_refl _⟩⟩
    rw [lrkP_13 (w := { w with r7 := w.r7 + 1 }) hd hpc, hlr]
    show 8 * (S - w.r4.toNat) + 10 - (w.r7 + 1).toNat < _
    rw [hr4, h7]
    omega
theorem step_fill (h : TabI S N c m L F (ownW w ++ R)) {p n : Nat} (hd : w.done = false) (hpc : w.pc = 20) (hp : PathP S m w p) (h5 : w.r5 = (n : Int) + 1) (he : kdAt S m n = kdW8 w) : StepsP S N c m L F R w := by
  have hT := h.tab
  have hl := hT.len
  have hs1 := hT.s1
  have hs2 := hT.s2
  have hn2 := hT.n2
  have hown : ownW w = [n] := ownW_some hd h5
  have hnm : n ∈ ownW w ++ R := by rw [hown]; simp
  have hnN := h.heldLt hnm
  have hpl := hp.lt
  have hat : atP S (kdW8 w) p < S := Nat.mod_lt _ (by omega)
  have hr4 : w.r4.toNat = p := by rw [hp.r4]; exact Int.toNat_natCast p
  have hb := hT.slots _ hat
  have hacc : accP S N w = (3, ((atP S (kdW8 w) p : Nat) : Int), 0, (n : Int) + 1) := by rw [accP_20 hpc, slot_acc (N := N) hp hs1 hs2, h5]
  have hdo := doA_swapAt (m := m) (a := ((atP S (kdW8 w) p : Nat) : Int)) (old := 0) (new := (n : Int) + 1) (by omega) (by omega) (by omega) (by unfold WdI; omega)
  rw [Int.toNat_natCast] at hdo
  have hlr : lrkP S c m w = 8 * (S - p) + 6 := by rw [lrkP_20 hd hpc, hr4]
  by_cases hz : m.getD (atP S (kdW8 w) p) 0 = 0
  · rw [if_neg (fun hne => hne hz)] at hdo
    have hst : stepP S N m w = (m.set (atP S (kdW8 w) p) ((n : Int) + 1), { w with done := true, out := w.r5 - 1 }, 0) := by
      unfold stepP
      rw [hacc, hdo]
      simp only
      rw [behP_20 hpc, if_pos rfl]
      rfl
    have htab := h.put (k := kdW8 w) (i := p) (n := n) (H' := R) hp.lt hp.lo hz hnm (by rw [hown]; exact List.Perm.refl _) he
    have hg : ∀ i, i ≠ atP S (kdW8 w) p → (m.set (atP S (kdW8 w) p) ((n : Int) + 1)).getD i 0 = m.getD i 0 := fun i hi => by
      rw [getD_set8, if_neg (fun hc => hi hc.1.symm)]
    generalize atP S (kdW8 w) p = a at *
    generalize m.set a ((n : Int) + 1) = m' at *
    have hkk : ∀ x, kdAt S m' x = kdAt S m x := fun x => kd_ext8 fun i hi => by
      rw [← kdAt_get S m' x hi, ← kdAt_get S m x hi, hg _ (by omega)]
    have hlinks : ∀ x, m'.getD (S + 4 * N + x + 1) 0 = m.getD (S + 4 * N + x + 1) 0 := fun x => hg _ (by omega)
    have hss : ∀ i, i < S → 0 < m.getD i 0 → m'.getD i 0 = m.getD i 0 := fun i _ h0 => hg i (fun e => by rw [e, hz] at h0; exact absurd h0 (by decide))
    have ho : w.r5 - 1 = (n : Int) := by rw [h5]; omega
    refine ⟨c, m', L ++ [(kdW8 w, n)], F, _, ⟨hst, rfl, ?_, .ended rfl (.inr ⟨n, ho, by simp [kdW8]⟩), ⟨hss, fun x _ => hkk x.2, fun x _ => ⟨hkk x, hlinks x⟩, fun x hx => List.mem_append.2 (.inl hx), .inr ⟨rfl, rfl, fun x _ => hlinks x⟩⟩, .inr ⟨n, rfl, rfl⟩, fun e => ?_⟩, ?_, .inl ⟨rfl, hcP_end rfl⟩⟩
    · rw [ownW_done rfl]; exact htab
    · have e' : w.r5 - 1 = -1 := e
      omega
    · rw [lrkP_done rfl, hlr]; omega
  · rw [if_pos hz] at hdo
    have hst : stepP S N m w = (m, { w with pc := 0 }, 0) := by
      unfold stepP
      rw [hacc, hdo]
      simp only
      rw [behP_20 hpc]
      rfl
    refine ⟨c, m, L, F, _, .quiet h hst rfl rfl (.look p hd rfl ⟨hp.r4, hp.lt, hp.lo⟩ (.inr ⟨n, h5, he⟩)) (fun e => .inl e), ?_, .inl ⟨rfl, Nat.le_refl _⟩⟩
    rw [lrkP_0 (w := { w with pc := 0 }) hd rfl, hlr]
    show 8 * (S - w.r4.toNat) + 3 + (if 0 < m.getD (atP S (kdW8 w) w.r4.toNat) 0 then 2 else 4) + (if w.r5 = 0 then 10 else 0) < _
    have hpos : 0 < m.getD (atP S (kdW8 w) p) 0 := by
      have hb1 := hb.1
      generalize m.getD (atP S (kdW8 w) p) 0 = g at hb1 hz
      omega
    rw [hr4, if_pos hpos, if_neg (show ¬ w.r5 = 0 by rw [h5]; omega)]
    omega
theorem step_tell (h : TabI S N c m L F (ownW w ++ R)) {n k : Nat} {t : Int} (hd : w.done = false) (hpc : w.pc = 31) (h5 : w.r5 = (n : Int) + 1) (ho : OutL L w) (hr : ReadH N c F w.r6 k t) : StepsP S N c m L F R w := by
  have hT := h.tab
  have hl := hT.len
  have hs2 := hT.s2
  have hn2 := hT.n2
  have hown : ownW w = [n] := ownW_some hd h5
  have hnm : n ∈ ownW w ++ R := by rw [hown]; simp
  have hnN := h.heldLt hnm
  have hnF := h.heldFree hnm
  have hnR : ∀ x ∈ R, x ≠ n := fun x hx e => by
    have hdp := (List.nodup_append.1 (List.nodup_append.1 h.nodup).2.1).2.1
    rw [hown] at hdp
    exact (List.nodup_append.1 hdp).2.2 n (by simp) x hx e.symm
  have ht0 := hr.2.2.1
  have htN := hr.2.2.2.1
  have hacc : accP S N w = (2, ((S + 4 * N + n + 1 : Nat) : Int), 0, t) := by
    rw [accP_31 hpc, hr.H hn2, h5]
    unfold insP
    rw [if_neg (by omega)]
    have e : ((S : Int) + 4 * (N : Int) + ((n : Int) + 1)) = ((S + 4 * N + n + 1 : Nat) : Int) := by omega
    rw [e]
  have hdo := doA_write (m := m) (a := ((S + 4 * N + n + 1 : Nat) : Int)) (v := t) (by omega) (by omega) (by omega) (by unfold WdI; omega)
  rw [Int.toNat_natCast] at hdo
  have hst : stepP S N m w = (m.set (S + 4 * N + n + 1) t, { w with pc := 32 }, 0) := by
    unfold stepP
    rw [hacc, hdo]
    simp only
    rw [behP_31 hpc]
    rfl
  obtain ⟨g1, g2⟩ := set_low (S := S) (N := N) (m := m) (a := S + 4 * N + n + 1) (v := t) (by omega)
  have hg : ∀ x, (m.set (S + 4 * N + n + 1) t).getD (S + 4 * N + x + 1) 0 = if x = n then t else m.getD (S + 4 * N + x + 1) 0 := fun x => by
    rw [getD_set8]
    by_cases e : x = n
    · rw [if_pos e, if_pos ⟨by omega, by omega⟩]
    · rw [if_neg e, if_neg (by omega)]
  have hput : ∀ x ∈ L, kdAt S (m.set (S + 4 * N + n + 1) t) x.2 = kdAt S m x.2 := fun x hx => g2 _ (h.putLt hx)
  have hfl : ∀ x ∈ F, (m.set (S + 4 * N + n + 1) t).getD (S + 4 * N + x + 1) 0 = m.getD (S + 4 * N + x + 1) 0 := fun x hx => by rw [hg, if_neg (show ¬ x = n from fun e => hnF (by rw [← e]; exact hx))]
  have hhd : (m.set (S + 4 * N + n + 1) t).getD (S + 4 * N) 0 = m.getD (S + 4 * N) 0 := by rw [getD_set8, if_neg (by omega)]
  refine ⟨c, _, L, F, _, ⟨hst, rfl, h.next List.length_set g1 hput ⟨by rw [hhd]; exact h.free.head, ChainO.same hfl h.free.chain, h.free.lt⟩ (fun x hx => ?_) h.perm, .push n k t hd rfl h5 ho hr (by rw [hg, if_pos rfl]), ⟨fun i hi _ => g1 i hi, hput, fun x hx => ⟨g2 _ (h.heldLt (List.mem_append.2 (.inr hx))), by rw [hg, if_neg (hnR x hx)]⟩, fun x hx => hx, .inr ⟨rfl, rfl, hfl⟩⟩, .inl rfl, fun e => .inl e⟩, ?_, .inl ⟨rfl, Nat.le_refl _⟩⟩
  · rw [hg]
    split
    · exact ⟨ht0, htN⟩
    · exact h.links x hx
  · rw [lrkP_32 (w := { w with pc := 32 }) hd rfl, lrkP_31 hd hpc]
    show 1 + (if hdC w.r6 < c then 3 else 0) < _
    omega
theorem step_push (h : TabI S N c m L F (ownW w ++ R)) (hc : c ≤ 1000000) {n k : Nat} {t : Int} (hd : w.done = false) (hpc : w.pc = 32) (h5 : w.r5 = (n : Int) + 1) (ho : OutL L w) (hr : ReadH N c F w.r6 k t) (hlk : m.getD (S + 4 * N + n + 1) 0 = t) : StepsP S N c m L F R w := by
  have hT := h.tab
  have hl := hT.len
  have hs2 := hT.s2
  have hn2 := hT.n2
  have hkc := hr.2.1
  have hC := hr.C hn2
  have hown : ownW w = [n] := ownW_some hd h5
  have hnm : n ∈ ownW w ++ R := by rw [hown]; simp
  have hnN := h.heldLt hnm
  have hacc : accP S N w = (3, ((S + 4 * N : Nat) : Int), w.r6, ((k : Int) + 1) * 1048576 + ((n : Int) + 1)) := by
    rw [accP_32 hpc, hC, h5]
    have e : ((S : Int) + 4 * (N : Int)) = ((S + 4 * N : Nat) : Int) := by omega
    rw [e]
  have hdo := doA_swapAt (m := m) (a := ((S + 4 * N : Nat) : Int)) (old := w.r6) (new := ((k : Int) + 1) * 1048576 + ((n : Int) + 1)) (by omega) (by omega) (by omega) (by unfold WdI; omega)
  rw [Int.toNat_natCast] at hdo
  rcases hr.eq h.free hn2 with ⟨e1, e2, e3⟩ | ⟨e1, e2⟩
  · rw [if_neg (fun hne => hne e1)] at hdo
    have hst : stepP S N m w = (m.set (S + 4 * N) (((c : Int) + 1) * 1048576 + ((n : Int) + 1)), { w with pc := 32, r5 := 0, done := true }, 0) := by
      unfold stepP
      rw [hacc, hdo]
      simp only
      rw [behP_32 hpc, if_pos rfl, e2]
      rfl
    obtain ⟨g1, g2⟩ := set_low (S := S) (N := N) (m := m) (a := S + 4 * N) (v := ((c : Int) + 1) * 1048576 + ((n : Int) + 1)) (Nat.le_refl _)
    have hlinks : ∀ x, (m.set (S + 4 * N) (((c : Int) + 1) * 1048576 + ((n : Int) + 1))).getD (S + 4 * N + x + 1) 0 = m.getD (S + 4 * N + x + 1) 0 := fun x => by rw [getD_set8, if_neg (by omega)]
    refine ⟨c + 1, _, L, n :: F, _, ⟨hst, rfl, ?_, .ended rfl ho, ⟨fun i hi _ => g1 i hi, fun x hx => g2 _ (h.putLt hx), fun x hx => ⟨g2 _ (h.heldLt (List.mem_append.2 (.inr hx))), hlinks x⟩, fun x hx => hx, .inl (Nat.lt_succ_self _)⟩, .inl rfl, fun e => .inl e⟩, ?_, .inr ⟨rfl, ?_⟩⟩
    · rw [ownW_done rfl]
      refine h.next List.length_set g1 (fun x hx => g2 _ (h.putLt hx)) ⟨?_, ⟨?_, ChainO.same (fun x _ => hlinks x) h.free.chain⟩, fun x hx => ?_⟩ (fun x hx => by rw [hlinks]; exact h.links x hx) ?_
      · rw [getD_set8, if_pos ⟨rfl, by omega⟩]; push_cast; rfl
      · rw [hlinks, hlk, e3]
      · rcases List.mem_cons.1 hx with rfl | hx
        · exact hnN
        · exact h.free.lt x hx
      · refine List.Perm.trans ?_ h.perm
        rw [hown, List.nil_append, List.cons_append, List.cons_append, List.nil_append]
        refine List.Perm.symm ?_
        exact List.Perm.trans (List.Perm.append_left F List.perm_middle) List.perm_middle
    · rw [lrkP_done rfl, lrkP_32 hd hpc]; omega
    · unfold hcP
      rw [if_pos rfl, if_neg (by rw [hd]; decide), if_neg (by rw [h5]; omega)]
      exact Nat.le_refl _
  · rw [if_pos e1] at hdo
    have hst : stepP S N m w = (m, { w with pc := 30 }, 0) := by
      unfold stepP
      rw [hacc, hdo]
      simp only
      rw [behP_32 hpc]
      rfl
    refine ⟨c, m, L, F, _, .quiet h hst rfl rfl (.back n hd rfl h5 ho) (fun e => .inl e), ?_, .inl ⟨rfl, Nat.le_refl _⟩⟩
    rw [lrkP_30 (w := { w with pc := 30 }) hd rfl, lrkP_32 hd hpc, hC, if_pos (by omega)]
    omega
/-- a worker's step, whatever it is at -/
theorem step_any8 (h : TabI S N c m L F (ownW w ++ R)) (hc : c ≤ 1000000) (hkw : ∀ i, i < 4 → WdI (kdH (kdW8 w) i)) (hd : w.done = false) (hw : WIn S N c m L F w) : StepsP S N c m L F R w := by
  have q : (∃ w', StP S N c m L F R w c m L F w' ∧ lrkP S c m w' < lrkP S c m w ∧ hcP w' ≤ hcP w) → StepsP S N c m L F R w := fun ⟨w', a, b, d⟩ => ⟨c, m, L, F, w', a, b, .inl ⟨rfl, d⟩⟩
  cases hw with
  | ended hd2 ho => rw [hd] at hd2; exact absurd hd2 (by decide)
  | look p hd hpc hp hn =>
    obtain ⟨w', a, b, d⟩ := step_look h hd hpc hp hn
    exact q ⟨w', a, b, Nat.le_of_eq d⟩
  | comp p x j hd hpc hp hn h6 hx h7 hj he => exact q (step_comp h hd hpc hp hn h6 hx h7 hj he)
  | head p hd hpc hp h5 => exact q (step_head h hd hpc hp h5)
  | next p k t hd hpc hp h5 hr ht => exact q (step_next h hd hpc hp h5 hr ht)
  | pop p k t hd hpc hp h5 hr ht h7 hl => exact step_pop h hc hd hpc hp h5 hr ht h7 hl
  | kids p n j hd hpc hp h5 h7 hj he => exact step_kids h hkw hd hpc hp h5 h7 hj he
  | fill p n hd hpc hp h5 he => exact step_fill h hd hpc hp h5 he
  | back n hd hpc h5 ho => exact q (step_back h hd hpc h5 ho)
  | tell n k t hd hpc h5 ho hr => exact step_tell h hd hpc h5 ho hr
  | push n k t hd hpc h5 ho hr hl => exact step_push h hc hd hpc h5 ho hr hl
end
end Go.Proofs.Ytocepdhjkhhpfaa
namespace Go.Proofs.Ytocepdhjkhhpfaa
set_option maxRecDepth 100000
set_option linter.unusedVariables false
set_option linter.unusedSimpArgs false

def dead8 : W8 := ⟨0, 0, 0, 0, 0, 0, 0, 0, 0, 0, true, 0⟩
def undT (l : List W8) : Nat := (l.map fun w => if w.done then 0 else 1).sum
def ownT (l : List W8) : List Nat := l.flatMap ownW
theorem TabI.held {S N c : Nat} {m : List Int} {L : List (Kd × Nat)} {F H H' : List Nat} (h : TabI S N c m L F H) (hp : H.Perm H') : TabI S N c m L F H' :=
  ⟨h.tab, h.free, h.links, (List.Perm.append_left F (List.Perm.append_left _ hp.symm)).trans h.perm, h.kids, h.place, h.occ, h.cnt⟩
structure CrowdT (S N c : Nat) (m : List Int) (L : List (Kd × Nat)) (F : List Nat) (l : List W8) : Prop where
  tab : TabI S N c m L F (ownT l)
  wks : ∀ w ∈ l, WIn S N c m L F w
  kws : ∀ w ∈ l, ∀ i, i < 4 → WdI (kdH (kdW8 w) i)
end Go.Proofs.Ytocepdhjkhhpfaa
namespace Go.Proofs.Ytocepdhjkhhpfaa
set_option maxRecDepth 100000
set_option linter.unusedVariables false
set_option linter.unusedSimpArgs false

/-- what became of a crowd -/
structure WentT (S N : Nat) (L : List (Kd × Nat)) (l : List W8) (L' : List (Kd × Nat)) (l' : List W8) : Prop where
  len : l'.length = l.length
  kd : ∀ j, kdW8 (l'.getD j dead8) = kdW8 (l.getD j dead8)
  sub : ∀ x ∈ L, x ∈ L'
  new : ∀ x ∈ L', x ∈ L ∨ ∃ j, j < l.length ∧ kdW8 (l.getD j dead8) = x.1
  cnt : L'.length + undT l' ≤ L.length + undT l
  room : L.length + undT l ≤ S → L.length + undT l ≤ N → (∀ j, (l.getD j dead8).out ≠ -1) → ∀ j, (l'.getD j dead8).out ≠ -1
theorem WentT.refl (S N : Nat) (L : List (Kd × Nat)) (l : List W8) : WentT S N L l L l := ⟨rfl, fun _ => rfl, fun _ h => h, fun _ h => .inl h, Nat.le_refl _, fun _ _ h => h⟩
theorem WentT.trans {S N : Nat} {L L1 L2 : List (Kd × Nat)} {l l1 l2 : List W8} (h : WentT S N L l L1 l1) (g : WentT S N L1 l1 L2 l2) : WentT S N L l L2 l2 := by
  refine ⟨g.len.trans h.len, fun j => (g.kd j).trans (h.kd j), fun x hx => g.sub x (h.sub x hx), fun x hx => ?_, by have := h.cnt; have := g.cnt; omega, fun a b d => ?_⟩
  · rcases g.new x hx with hx | ⟨j, hj, e⟩
    · exact h.new x hx
    · exact .inr ⟨j, by rw [← h.len]; exact hj, by rw [← h.kd j]; exact e⟩
  · have := h.cnt
    exact g.room (by omega) (by omega) (h.room a b d)
end Go.Proofs.Ytocepdhjkhhpfaa
namespace Go.Proofs.Ytocepdhjkhhpfaa
set_option maxRecDepth 100000
set_option linter.unusedVariables false
set_option linter.unusedSimpArgs false

theorem tabI_new {S N : Nat} (h1 : 1 ≤ S) (h2 : S ≤ 4000) (hn : N ≤ 1000) : TabI S N 0 (newT S N) [] (List.range N) [] := by
  have h := probe_new h1 h2 hn
  have hs := stk_new N
  refine ⟨h.tab, h.free, fun x hx => ?_, by simp, h.kids, h.place, h.occ, h.cnt⟩
  rw [Nat.add_assoc (S + 4 * N) x 1, newT_high]
  exact hs.links (x + 1) (by omega)
theorem ownT_done {l : List W8} (h : ∀ w ∈ l, w.done = true) : ownT l = [] := by
  unfold ownT
  rw [List.flatMap_eq_nil_iff]
  exact fun w hw => ownW_done (h w hw)
/-- behind a crowd -/
theorem CrowdT.out {S N c : Nat} {m : List Int} {L : List (Kd × Nat)} {F : List Nat} {l : List W8} (h : CrowdT S N c m L F l) {w : W8} (hw : w ∈ l) (hd : w.done = true) : OutL L w := by
  cases h.wks w hw with
  | ended _ ho => exact ho
  | look p hd2 => rw [hd] at hd2; exact absurd hd2 (by decide)
  | comp p x j hd2 => rw [hd] at hd2; exact absurd hd2 (by decide)
  | head p hd2 => rw [hd] at hd2; exact absurd hd2 (by decide)
  | next p k t hd2 => rw [hd] at hd2; exact absurd hd2 (by decide)
  | pop p k t hd2 => rw [hd] at hd2; exact absurd hd2 (by decide)
  | kids p n j hd2 => rw [hd] at hd2; exact absurd hd2 (by decide)
  | fill p n hd2 => rw [hd] at hd2; exact absurd hd2 (by decide)
  | back n hd2 => rw [hd] at hd2; exact absurd hd2 (by decide)
  | tell n k t hd2 => rw [hd] at hd2; exact absurd hd2 (by decide)
  | push n k t hd2 => rw [hd] at hd2; exact absurd hd2 (by decide)
theorem CrowdT.end {S N c : Nat} {m : List Int} {L : List (Kd × Nat)} {F : List Nat} {l : List W8} (h : CrowdT S N c m L F l) (hd : ∀ w ∈ l, w.done = true) : TabI S N c m L F [] := by
  have := h.tab
  rw [ownT_done hd] at this
  exact this
/-! ### what was put is found -/
theorem TabI.uniq {S N c : Nat} {m : List Int} {L : List (Kd × Nat)} {F H : List Nat} (h : TabI S N c m L F H) {k : Kd} {x y : Nat} (hx : (k, x) ∈ L) (hy : (k, y) ∈ L) : x = y := by
  obtain ⟨p, h1, h2, h3⟩ := h.place _ hx
  obtain ⟨q, g1, g2, g3⟩ := h.place _ hy
  have kx := h.kids _ hx
  have ky := h.kids _ hy
  have tx : ((x : Int) + 1 - 1).toNat = x := by omega
  have ty : ((y : Int) + 1 - 1).toNat = y := by omega
  rcases Nat.lt_trichotomy p q with hl | hl | hl
  · have := (g3 p hl).2
    have h2' : m.getD (atP S k p) 0 = (x : Int) + 1 := h2
    rw [h2', tx] at this
    exact absurd kx this
  · have h2' : m.getD (atP S k p) 0 = (x : Int) + 1 := h2
    have g2' : m.getD (atP S k q) 0 = (y : Int) + 1 := g2
    rw [hl, g2'] at h2'
    omega
  · have := (h3 q hl).2
    have g2' : m.getD (atP S k q) 0 = (y : Int) + 1 := g2
    rw [g2', ty] at this
    exact absurd ky this
theorem TabI.node {S N c : Nat} {m : List Int} {L : List (Kd × Nat)} {F H : List Nat} (h : TabI S N c m L F H) {k k' : Kd} {x : Nat} (hx : (k, x) ∈ L) (hy : (k', x) ∈ L) : k = k' := by
  have a := h.kids _ hx
  have b := h.kids _ hy
  exact a.symm.trans b
end Go.Proofs.Ytocepdhjkhhpfaa
namespace Go.Proofs.Ytocepdhjkhhpfaa
set_option maxRecDepth 100000
set_option linter.unusedVariables false
set_option linter.unusedSimpArgs false

/-- a worker's numbers, as they may be -/
structure Fit8 (S : Int) (w : W8) : Prop where
  job : w.job = 3
  r4 : 0 ≤ w.r4 ∧ w.r4 ≤ S
  r5 : 0 ≤ w.r5 ∧ w.r5 ≤ 1048576
  r7 : 0 ≤ w.r7
  w0 : WdI w.r0
  w1 : WdI w.r1
  w2 : WdI w.r2
  w3 : WdI w.r3
  w6 : WdI w.r6
  w7 : WdI w.r7
  wo : WdI w.out
/-- .. what may be done -/
structure May8 (S : Int) (w : W8) : Prop where
  done : w.done = false
  pc : w.pc = 0 ∨ w.pc = 1 ∨ w.pc = 10 ∨ w.pc = 11 ∨ w.pc = 12 ∨ w.pc = 13 ∨ w.pc = 20 ∨ w.pc = 30 ∨ w.pc = 31 ∨ w.pc = 32
  slot : w.pc = 0 ∨ w.pc = 1 ∨ w.pc = 20 → w.r4 < S
  kid : w.pc = 1 ∨ w.pc = 13 → w.r7 ≤ 3
theorem WIn.may {S N c : Nat} {m : List Int} {L : List (Kd × Nat)} {F : List Nat} {w : W8} (h : WIn S N c m L F w) (hd : w.done = false) : May8 S w := by
  cases h with
  | ended hd2 _ => rw [hd] at hd2; cases hd2
  | look p hd hpc hp hn => exact ⟨hd, .inl hpc, fun _ => by have := hp.r4; have := hp.lt; omega, fun e => by omega⟩
  | comp p x j hd hpc hp hn h6 hx h7 hj he => exact ⟨hd, by omega, fun _ => by have := hp.r4; have := hp.lt; omega, fun e => by omega⟩
  | head p hd hpc hp h5 => exact ⟨hd, by omega, fun e => by omega, fun e => by omega⟩
  | next p k t hd hpc hp h5 hr ht => exact ⟨hd, by omega, fun e => by omega, fun e => by omega⟩
  | pop p k t hd hpc hp h5 hr ht h7 hl => exact ⟨hd, by omega, fun e => by omega, fun e => by omega⟩
  | kids p n j hd hpc hp h5 h7 hj he => exact ⟨hd, by omega, fun e => by omega, fun e => by omega⟩
  | fill p n hd hpc hp h5 he => exact ⟨hd, by omega, fun _ => by have := hp.r4; have := hp.lt; omega, fun e => by omega⟩
  | back n hd hpc h5 ho => exact ⟨hd, by omega, fun e => by omega, fun e => by omega⟩
  | tell n k t hd hpc h5 ho hr => exact ⟨hd, by omega, fun e => by omega, fun e => by omega⟩
  | push n k t hd hpc h5 ho hr hl => exact ⟨hd, by omega, fun e => by omega, fun e => by omega⟩
theorem endP_fit {S : Int} {v : W8} {n : Int} (h : Fit8 S v) (hn : WdI n) : Fit8 S (endP v n) := by
  obtain ⟨h1, h2, h3, h4, h5, h6, h7, h8, h9, h10, h11⟩ := h
  unfold endP
  split
  · exact ⟨h1, h2, h3, h4, h5, h6, h7, h8, h9, h10, hn⟩
  · exact ⟨h1, h2, h3, h4, h5, h6, h7, h8, h9, h10, hn⟩
theorem behP_fit {S : Int} {w : W8} {x : Int} {dn : Bool} (hS : S ≤ 4000) (h : Fit8 S w) (hm : May8 S w) (hx : WdI x) (h11 : w.pc = 11 → 0 ≤ x) : Fit8 S (behP S w x dn) := by
  obtain ⟨h1, h2, h3, h4, h5, h6, h7, h8, h9, h10, ho⟩ := h
  have hb := hdH_bd w.r6
  obtain ⟨m1, m2, m3, m4⟩ := hm
  have hn1 : WdI (-1) := by unfold WdI; omega
  have h0 : WdI 0 := wdI0
  rcases m2 with e | e | e | e | e | e | e | e | e | e
  · rw [behP_0 e]
    split
    · split
      · exact ⟨h1, h2, h3, h4, h5, h6, h7, h8, h9, h10, ho⟩
      · exact ⟨h1, h2, h3, h4, h5, h6, h7, h8, h9, h10, ho⟩
    · exact ⟨h1, h2, h3, Int.le_refl 0, h5, h6, h7, h8, by unfold WdI at hx ⊢; simp only; omega, h0, ho⟩
  · rw [behP_1 e]
    have a4 := m3 (.inr (.inl e))
    have a7 := m4 (.inl e)
    have f7 : Fit8 S { w with r7 := w.r7 + 1 } := ⟨h1, h2, h3, by simp only; omega, h5, h6, h7, h8, h9, by unfold WdI; simp only; omega, ho⟩
    have f4 : Fit8 S { w with r4 := w.r4 + 1 } := ⟨h1, by simp only; omega, h3, h4, h5, h6, h7, h8, h9, h10, ho⟩
    split
    · split
      · exact endP_fit f7 h9
      · exact f7
    · split
      · exact endP_fit f4 hn1
      · exact ⟨h1, by simp only; omega, h3, h4, h5, h6, h7, h8, h9, h10, ho⟩
  · rw [behP_10 e]
    have f6 : Fit8 S { w with r6 := x } := ⟨h1, h2, h3, h4, h5, h6, h7, h8, hx, h10, ho⟩
    split
    · exact endP_fit f6 hn1
    · exact ⟨h1, h2, h3, h4, h5, h6, h7, h8, hx, h10, ho⟩
  · rw [behP_11 e]
    exact ⟨h1, h2, h3, h11 e, h5, h6, h7, h8, h9, hx, ho⟩
  · rw [behP_12 e]
    split
    · exact ⟨h1, h2, by simp only; omega, Int.le_refl 0, h5, h6, h7, h8, h9, h0, ho⟩
    · exact ⟨h1, h2, h3, h4, h5, h6, h7, h8, h9, h10, ho⟩
  · rw [behP_13 e]
    have a7 := m4 (.inr e)
    split
    · exact ⟨h1, h2, h3, by simp only; omega, h5, h6, h7, h8, h9, by unfold WdI; simp only; omega, ho⟩
    · exact ⟨h1, h2, h3, by simp only; omega, h5, h6, h7, h8, h9, by unfold WdI; simp only; omega, ho⟩
  · rw [behP_20 e]
    split
    · exact ⟨h1, h2, h3, h4, h5, h6, h7, h8, h9, h10, by unfold WdI; simp only; omega⟩
    · exact ⟨h1, h2, h3, h4, h5, h6, h7, h8, h9, h10, ho⟩
  · rw [behP_30 e]
    exact ⟨h1, h2, h3, h4, h5, h6, h7, h8, hx, h10, ho⟩
  · rw [behP_31 e]
    exact ⟨h1, h2, h3, h4, h5, h6, h7, h8, h9, h10, ho⟩
  · rw [behP_32 e]
    split
    · exact ⟨h1, h2, ⟨Int.le_refl 0, (by decide : (0 : Int) ≤ 1048576)⟩, h4, h5, h6, h7, h8, h9, h10, ho⟩
    · exact ⟨h1, h2, h3, h4, h5, h6, h7, h8, h9, h10, ho⟩
theorem stepP_parts {S N : Int} {m m1 : List Int} {w w1 : W8} (h : stepP S N m w = (m1, w1, 0)) : (doA m (accP S N w)).2.2.2 = 0 ∧ (doA m (accP S N w)).1 = m1 ∧ behP S w (doA m (accP S N w)).2.1 (doA m (accP S N w)).2.2.1 = w1 := by
  unfold stepP at h
  split at h
  · rename_i e
    injection h with h1 h2
    injection h2 with h2 h3
    exact ⟨e, h1, h2⟩
  · rename_i e
    injection h with h1 h2
    injection h2 with h2 h3
    exact absurd h3 e
theorem step_fit {S N c' : Nat} {m m1 : List Int} {L' : List (Kd × Nat)} {F' : List Nat} {w w1 : W8} (hS : S ≤ 4000) (h : stepP S N m w = (m1, w1, 0)) (hm : ∀ x ∈ m, WdI x) (hf : Fit8 S w) (hy : May8 S w) (hw : WIn S N c' m1 L' F' w1) : (∀ x ∈ m1, WdI x) ∧ Fit8 S w1 := by
  obtain ⟨e1, e2, e3⟩ := stepP_parts h
  obtain ⟨g1, g2⟩ := doA_wd (accP S N w) hm
  rw [e2] at g1
  refine ⟨g1, ?_⟩
  rw [← e3]
  refine behP_fit (by omega) hf hy g2 fun h11 => ?_
  rw [behP_11 h11] at e3
  have hd := hy.done
  have hpc : w1.pc = 12 := by rw [← e3]
  have hdn : w1.done = false := by rw [← e3]; exact hd
  have hr7 : w1.r7 = (doA m (accP S N w)).2.1 := by rw [← e3]
  rw [← hr7]
  cases hw with
  | ended hd2 _ => rw [hdn] at hd2; cases hd2
  | pop p k t hd hpc hp h5 hr ht h7 hl => exact h7.1
  | look p hd hpc2 => omega
  | comp p x j hd hpc2 => omega
  | head p hd hpc2 => omega
  | next p k t hd hpc2 => omega
  | kids p n j hd hpc2 => omega
  | fill p n hd hpc2 => omega
  | back n hd hpc2 => omega
  | tell n k t hd hpc2 => omega
  | push n k t hd hpc2 => omega
/-- one alone, all of whose steps may be done -/
inductive AloneM (S N : Int) : List Int → W8 → Nat → List Int → W8 → Prop where
  | nil (m w) : AloneM S N m w 0 m w
  | step {m w m1 w1 q m2 w2} : May8 S w → Fit8 S w → (∀ x ∈ m, WdI x) → stepP S N m w = (m1, w1, 0) → AloneM S N m1 w1 q m2 w2 → AloneM S N m w (q + 1) m2 w2
theorem stepP_len {S N : Int} {m m1 : List Int} {w w1 : W8} (h : stepP S N m w = (m1, w1, 0)) : m1.length = m.length := by
  obtain ⟨e1, e2, e3⟩ := stepP_parts h
  rw [← e2]
  exact doA_len _ _
theorem along {S N : Nat} (hS : S ≤ 4000) : ∀ (q c : Nat) (m : List Int) (w : W8) (L : List (Kd × Nat)) (F : List Nat) (m2 : List Int) (w2 : W8), TabI S N c m L F (ownW w ++ []) → c + q ≤ 1000000 → (∀ i, i < 4 → WdI (kdH (kdW8 w) i)) → WIn S N c m L F w → Fit8 S w → (∀ x ∈ m, WdI x) → Alone8 S N m w q m2 w2 →
    AloneM S N m w q m2 w2 ∧ (∃ c' L' F', c' ≤ c + q ∧ TabI S N c' m2 L' F' (ownW w2 ++ [])) ∧ (∀ x ∈ m2, WdI x) ∧ Fit8 S w2 := by
  intro q
  induction q with
  | zero =>
    intro c m w L F m2 w2 hT hc hk hw hf hm h
    cases h
    exact ⟨.nil _ _, ⟨c, L, F, Nat.le_refl _, hT⟩, hm, hf⟩
  | succ q ih =>
    intro c m w L F m2 w2 hT hc hk hw hf hm h
    cases h with
    | step hd hs hrest =>
      obtain ⟨c', m', L', F', w', hst, _, hcc⟩ := step_any8 hT (by omega) hk hd hw
      have hst1 := hst.step
      rw [hs] at hst1
      injection hst1 with e1 e2
      injection e2 with e2 _
      subst e1 e2
      obtain ⟨g1, g2⟩ := step_fit hS hs hm hf (hw.may hd) hst.win
      have hkk := hst.kd
      obtain ⟨r1, ⟨c2, L2, F2, r2, r3⟩, r4, r5⟩ := ih c' _ _ L' F' m2 w2 hst.tab (by omega) (by rw [hkk]; exact hk) hst.win g2 g1 hrest
      exact ⟨.step (hw.may hd) hf hm hs r1, ⟨c2, L2, F2, by omega, r3⟩, r4, r5⟩
theorem intern_fit {S : Nat} (hS : 1 ≤ S) {k : Kd} (hk : ∀ i, i < 4 → WdI (kdH k i)) : Fit8 S (internW k) :=
  ⟨rfl, ⟨Int.le_refl 0, by show (0 : Int) ≤ _; omega⟩, ⟨Int.le_refl 0, (by decide : (0 : Int) ≤ 1048576)⟩, Int.le_refl 0, hk 0 (by decide), hk 1 (by decide), hk 2 (by decide), hk 3 (by decide), wdI0, wdI0, wdI0⟩
/-- one alone comes to a table at which nobody is -/
theorem along_new {S N c q : Nat} {m m2 : List Int} {L : List (Kd × Nat)} {F : List Nat} {k : Kd} {w2 : W8} (hT : TabI S N c m L F []) (hc : c + q ≤ 1000000) (hk : ∀ i, i < 4 → WdI (kdH k i)) (hm : ∀ x ∈ m, WdI x) (h : Alone8 S N m (internW k) q m2 w2) (hd : w2.done = true) :
    AloneM S N m (internW k) q m2 w2 ∧ (∃ c' L' F', c' ≤ c + q ∧ TabI S N c' m2 L' F' []) ∧ (∀ x ∈ m2, WdI x) ∧ Fit8 S w2 := by
  have hs1 := hT.tab.s1
  obtain ⟨r1, ⟨c2, L2, F2, r2, r3⟩, r4, r5⟩ := along hT.tab.s2 q c m (internW k) L F m2 w2 (by rw [ownW_none rfl]; exact hT) hc hk (.look 0 rfl rfl ⟨rfl, by omega, fun i hi => absurd hi (Nat.not_lt_zero i)⟩ (.inl rfl)) (intern_fit hs1 hk) hm h
  rw [ownW_done hd] at r3
  exact ⟨r1, ⟨c2, L2, F2, r2, r3⟩, r4, r5⟩
theorem newT_wd {S N : Nat} (hn : N ≤ 1000) : ∀ x ∈ newT S N, WdI x := by
  intro x hx
  unfold newT at hx
  rcases List.mem_append.1 hx with hx | hx
  · rw [(List.mem_replicate.1 hx).2]; exact wdI0
  · have hs := stk_new N
    obtain ⟨i, hi, rfl⟩ := List.mem_iff_getElem.1 hx
    have e : (makeL N).getD i 0 = (makeL N)[i] := by rw [List.getD_eq_getElem?_getD, List.getElem?_eq_getElem hi]; rfl
    have hl := makeL_len N
    rw [← e]
    by_cases h0 : i = 0
    · rw [h0, hs.head]
      have := topF_bd hs.lt
      unfold WdI
      omega
    · have := hs.links i (by omega)
      unfold WdI
      omega
end Go.Proofs.Ytocepdhjkhhpfaa
