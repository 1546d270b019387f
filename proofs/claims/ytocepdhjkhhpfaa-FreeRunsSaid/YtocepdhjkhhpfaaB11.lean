/-
  Texts that the claims of this seat share, part 11.
-/
import Derived.Test.YtocepdhjkhhpfaaB06
import Derived.Test.YtocepdhjkhhpfaaB09
import Derived.Test.YtocepdhjkhhpfaaB10
import Derived.Test.YtocepdhjkhhpfaaB00
import Derived.Lib.OthersKept
set_option linter.unusedVariables false
set_option linter.unusedSimpArgs false
namespace Go.Proofs.Ytocepdhjkhhpfaa
set_option maxRecDepth 100000
set_option linter.unusedVariables false
set_option linter.unusedSimpArgs false
open Go.RowKit Go.Sort

theorem pick12_any (c n : Int) (w : World) (hc : I64 c) (hn : 1 ≤ n) (hn2 : n ≤ 9223372036854775807) :
    Calls Try.prog 14 #[.int .i64 c, .int .i64 n] w fun e w' => e = .returned (.int .i64 (pickI c n)) ∧ w = w' := by
  obtain ⟨h1, h2⟩ := hc
  generalize hr : pickI c n = r
  have HR := Lib.hid hr
  clear hr
  go_enter Try.func14, Try.ntmps14
  go_wp2
  all_goals go_ret
  all_goals refine ⟨?_, rfl⟩
  all_goals (refine Qt.ret_int ?_; rw [← HR.out]; unfold pickI)
  · rw [if_pos (by assumption), ← Int.neg_tmod, Int.tmod_eq_emod_of_nonneg (by omega)]
  · rw [if_neg (by omega)]
theorem refPop_any (w : World) : Calls Try.prog 38 #[] w (ValR (wkV popW) w) := by
  go_enter Try.func38, Try.ntmps38
  go_wp2
  exact bodyPost_ret (results_cellW rfl _ _ (w.heap.size) _ _ _ _ rfl (heap_alloc_new _ _) Try.underlying39 rfl (by kernel_rfl)) rfl ⟨rfl, (Below.refl _ _).alloc (Nat.le_refl _) _⟩
theorem refPush_any12 (n : Int) (w : World) : Calls Try.prog 37 #[.int .i64 n] w (ValR (wkV (pushW n)) w) := by
  go_enter Try.func37, Try.ntmps37
  go_wp2
  exact bodyPost_ret (results_cellW rfl _ _ (w.heap.size) _ _ _ _ rfl (heap_alloc_new _ _) Try.underlying39 rfl (by kernel_rfl)) rfl ⟨rfl, (Below.refl _ _).alloc (Nat.le_refl _) _⟩
/-- a crowd: the workers, and how many nodes are given back -/
def crowdTo (raw held : List Int) : Nat → List Wk × Nat
  | 0 => ([], 0)
  | i + 1 => if (raw.getD i 0).tmod 2 = 0 ∧ (crowdTo raw held i).2 < held.length then ((crowdTo raw held i).1 ++ [pushW (held.getD (crowdTo raw held i).2 0)], (crowdTo raw held i).2 + 1) else ((crowdTo raw held i).1 ++ [popW], (crowdTo raw held i).2)
def crowdL (raw held : List Int) : List Wk := (crowdTo raw held (min raw.length 8)).1
theorem crowdTo_len (raw held : List Int) (i : Nat) : (crowdTo raw held i).1.length = i := by
  induction i with
  | zero => rfl
  | succ i ih => unfold crowdTo; split <;> simp [ih]
theorem crowdTo_le (raw held : List Int) (i : Nat) : (crowdTo raw held i).2 ≤ i := by
  induction i with
  | zero => exact Nat.le_refl _
  | succ i ih => unfold crowdTo; split <;> simp only <;> omega
theorem crowdTo_pop (raw : List Int) (i : Nat) : (crowdTo raw [] i).1 = List.replicate i popW := by
  induction i with
  | zero => rfl
  | succ i ih => unfold crowdTo; rw [if_neg (by simp), ih, List.replicate_succ']
theorem crowdL_nil (raw : List Int) : crowdL raw [] = List.replicate (min raw.length 8) popW := crowdTo_pop raw _
/-- workers that a call makes -/
def WksR (l : List Wk) (w : World) (r : Ending) (w' : World) : Prop := ∃ v, r = .returned v ∧ OwnWk w' w.heap.size v l ∧ Below w.heap.size w w'
set_option maxHeartbeats 4000000 in
theorem crowd_any (A H : Option Addr) (raw held : List Int) (c d : Nat) (w : World) (hR : InL w A raw c) (hH : Now w H held) (hl : held.length ≤ 1000000) :
    Calls Try.prog 15 #[.slice A raw.length c, .slice H held.length d] w (WksR (crowdL raw held) w) := by
  have HR := Lib.hid hR
  have HH := Lib.hid hH
  have hrl := hR.len
  clear hR hH
  go_enter Try.func15, Try.ntmps15
  go_wp2
  go_loopw [5, 6, 7] (fun v q i wr => ∃ k : Nat, k ≤ raw.length ∧ k ≤ 8 ∧ i = .int .i64 k ∧ q = .int .i64 ((crowdTo raw held k).2 : Int) ∧ Hid (OwnWk wr w.heap.size v (crowdTo raw held k).1 ∧ Below w.heap.size w wr)) (fun _ _ i _ => 8 - (intOf i).toNat)
  case atStart => exact ⟨0, Nat.zero_le _, by omega, rfl, rfl, (show Hid _ from ⟨World.ownsRow_nil _ _ _ _, Below.refl _ _⟩)⟩
  case round =>
    obtain ⟨k, hk, hk8, rfl, rfl, HO⟩ := hrel
    by_cases hlt : k < raw.length ∧ k < 8
    · obtain ⟨hlt1, hlt2⟩ := hlt
      have hltz : (k : Int) < (raw.length : Int) := by omega
      obtain ⟨b, off, rfl, hbB, hcell⟩ := Rd.at_ HR.out.now (by omega)
      have y0 := (HO.out.2.cell (p := ⟨b, off + k, none⟩) hbB).trans (hcell k hlt1)
      have hfit := HR.out.fit k hlt1
      have hsu : crowdTo raw held (k + 1) = if (raw.getD k 0).tmod 2 = 0 ∧ (crowdTo raw held k).2 < held.length then ((crowdTo raw held k).1 ++ [pushW (held.getD (crowdTo raw held k).2 0)], (crowdTo raw held k).2 + 1) else ((crowdTo raw held k).1 ++ [popW], (crowdTo raw held k).2) := rfl
      have hlen := crowdTo_len raw held k
      have hle := crowdTo_le raw held k
      obtain ⟨x, hx⟩ : ∃ x, x = raw.getD k 0 := ⟨_, rfl⟩
      rw [← hx] at y0 hfit hsu
      obtain ⟨⟨out, q⟩, hq⟩ : ∃ p, p = crowdTo raw held k := ⟨_, rfl⟩
      rw [← hq] at hsu hlen hle HO ⊢
      simp only at hsu hlen hle HO ⊢
      obtain ⟨A2, c2, hv, hc2, _⟩ := HO.out.1.slice
      rw [hlen] at hv hc2
      obtain ⟨f1, f2⟩ := hfit
      have HQ := Lib.hid hq
      have HX := Lib.hid hx
      clear hcell hx hq
      by_cases hc : x.tmod 2 = 0 ∧ q < held.length
      · rw [if_pos hc] at hsu
        have HSU := Lib.hid hsu
        obtain ⟨hc1, hc2'⟩ := hc
        have e1 : (x.tmod 2 == 0) = true := by rw [hc1]; rfl
        have e2 : (q : Int) < (held.length : Int) := by omega
        obtain ⟨bh, offh, rfl, hbh, hch⟩ := Rd.at_ HH.out (by omega)
        have y1 := (HO.out.2.cell (p := ⟨bh, offh + q, none⟩) hbh).trans (hch q hc2')
        obtain ⟨z, hz⟩ : ∃ z, z = held.getD q 0 := ⟨_, rfl⟩
        rw [← hz] at y1
        have HZ := Lib.hid hz
        have hps := refPush_any12 z wr
        subst hv
        clear hsu hch hz hc1
        go_wp2_with fail
        refine hps.mono ?_
        rintro r w2 ⟨rfl, hb2⟩
        have hB2 := Qt.more HO.out.2 HO.out.2.size hb2
        obtain ⟨v', w3, hrun, hown, _, hb3⟩ := pushWk_any (pushW z) hB2.size (HO.out.1.next hb2) (by omega)
        have HRun := Lib.hid hrun
        have HN := Lib.hid (And.intro hown (hB2.trans hb3))
        clear hps hb2 hB2 hrun hown hb3 y0 y1
        go_wp2_with (at_builtin; refine Lib.wpList_append_run _ rfl (.tmp 30) (.tmp 36) 27 27 rfl _ _ rfl rfl _ _ HRun.out ?_)
        go_roundw
        case measure => simp [intOf]; omega
        case rel => exact ⟨k + 1, by omega, by omega, by go_num, by rw [HSU.out]; go_num, (show Hid _ from by rw [HSU.out, HZ.out] at *; exact HN.out)⟩
      · rw [if_neg hc] at hsu
        have HSU := Lib.hid hsu
        have hps := refPop_any wr
        subst hv
        clear hsu
        by_cases hx0 : x.tmod 2 = 0
        · have e1 : (x.tmod 2 == 0) = true := by rw [hx0]; rfl
          have e2 : ¬ (q : Int) < (held.length : Int) := by omega
          clear hc hx0
          go_wp2_with fail
          refine hps.mono ?_
          rintro r w2 ⟨rfl, hb2⟩
          have hB2 := Qt.more HO.out.2 HO.out.2.size hb2
          obtain ⟨v', w3, hrun, hown, _, hb3⟩ := pushWk_any popW hB2.size (HO.out.1.next hb2) (by omega)
          have HRun := Lib.hid hrun
          have HN := Lib.hid (And.intro hown (hB2.trans hb3))
          clear hps hb2 hB2 hrun hown hb3 y0
          go_wp2_with (at_builtin; refine Lib.wpList_append_run _ rfl (.tmp 40) (.tmp 42) 27 27 rfl _ _ rfl rfl _ _ HRun.out ?_)
          go_roundw
          case measure => simp [intOf]; omega
          case rel => exact ⟨k + 1, by omega, by omega, by go_num, by rw [HSU.out], (show Hid _ from by rw [HSU.out]; exact HN.out)⟩
        · have e1 : (x.tmod 2 == 0) = false := beq_eq_false_iff_ne.2 hx0
          clear hc hx0
          go_wp2_with fail
          refine hps.mono ?_
          rintro r w2 ⟨rfl, hb2⟩
          have hB2 := Qt.more HO.out.2 HO.out.2.size hb2
          obtain ⟨v', w3, hrun, hown, _, hb3⟩ := pushWk_any popW hB2.size (HO.out.1.next hb2) (by omega)
          have HRun := Lib.hid hrun
          have HN := Lib.hid (And.intro hown (hB2.trans hb3))
          clear hps hb2 hB2 hrun hown hb3 y0
          go_wp2_with (at_builtin; refine Lib.wpList_append_run _ rfl (.tmp 40) (.tmp 42) 27 27 rfl _ _ rfl rfl _ _ HRun.out ?_)
          go_roundw
          case measure => simp [intOf]; omega
          case rel => exact ⟨k + 1, by omega, by omega, by go_num, by rw [HSU.out], (show Hid _ from by rw [HSU.out]; exact HN.out)⟩
    · have hmin : min raw.length 8 = k := by omega
      have hfin : crowdL raw held = (crowdTo raw held k).1 := by unfold crowdL; rw [hmin]
      have HF := Lib.hid hfin
      clear hmin hfin
      by_cases h1 : k < raw.length
      · have h2 : ¬ (k < 8) := by omega
        obtain rfl : k = 8 := by omega
        have hltz : ((8 : Nat) : Int) < (raw.length : Int) := by omega
        go_wp2
        go_ret
        exact ⟨_, rfl, by rw [HF.out]; exact HO.out.1, HO.out.2⟩
      · have hltz : ¬ (k : Int) < (raw.length : Int) := by omega
        go_wp2
        go_ret
        exact ⟨_, rfl, by rw [HF.out]; exact HO.out.1, HO.out.2⟩
end Go.Proofs.Ytocepdhjkhhpfaa
namespace Go.Proofs.Ytocepdhjkhhpfaa
set_option linter.unusedVariables false
set_option linter.unusedSimpArgs false

def hdN (n f : Nat) : Int := (f : Int) * 1048576 + (if f < n then (f : Int) + 1 else 0)
def wds (n f : Nat) : List Int := (makeL n).set 0 (hdN n f)
theorem hdN_H {n f : Nat} (hn : n ≤ 1000) : hdH (hdN n f) = if f < n then (f : Int) + 1 else 0 := by
  unfold hdH hdN
  by_cases h : f < n
  · rw [if_pos h]; rw [if_neg (by omega)]; omega
  · rw [if_neg h]; rw [if_neg (by omega)]; omega
theorem hdN_C {n f : Nat} (hn : n ≤ 1000) : hdC (hdN n f) = f := by
  unfold hdC hdN
  by_cases h : f < n
  · rw [if_pos h]; rw [if_neg (by omega)]; omega
  · rw [if_neg h]; rw [if_neg (by omega)]; omega
theorem hdN_inj {n f g : Nat} (hn : n ≤ 1000) (h : hdN n f = hdN n g) : f = g := by
  have h1 := hdN_C (f := f) hn
  have h2 := hdN_C (f := g) hn
  rw [h, h2] at h1
  omega
theorem hdN_wd {n f : Nat} (hn : n ≤ 1000) (hf : f ≤ 1000000) : WdI (hdN n f) := by
  unfold WdI hdN
  split <;> omega
theorem wds_len (n f : Nat) : (wds n f).length = n + 1 := by unfold wds; rw [List.length_set, makeL_len]
theorem wds_zero (n : Nat) : wds n 0 = makeL n := by
  have hl := makeL_len n
  refine List.ext_getElem? fun j => ?_
  unfold wds
  rw [List.getElem?_set]
  by_cases h : 0 = j
  · subst h
    rw [if_pos rfl, if_pos (by omega), List.getElem?_eq_getElem (by omega)]
    congr 1
    have e : (makeL n).getD 0 0 = if 0 < n then 1 else 0 := by
      by_cases h0 : 0 < n
      · rw [if_pos h0]; exact makeTo_get h0
      · obtain rfl : n = 0 := by omega
        rfl
    rw [List.getD_eq_getElem?_getD, List.getElem?_eq_getElem (by omega), Option.getD_some] at e
    rw [e]
    unfold hdN
    by_cases h0 : 0 < n
    · rw [if_pos h0, if_pos h0]; rfl
    · rw [if_neg h0, if_neg h0]; rfl
  · rw [if_neg h]
theorem wds_get0 (n f : Nat) : (wds n f).getD 0 0 = hdN n f := by
  have := makeL_len n
  unfold wds
  rw [List.getD_eq_getElem?_getD, List.getElem?_set, if_pos rfl, if_pos (by omega)]
  rfl
theorem wds_get (n f : Nat) {k : Nat} (h : 0 < k) : (wds n f).getD k 0 = (makeL n).getD k 0 := by
  unfold wds
  rw [List.getD_eq_getElem?_getD, List.getElem?_set, if_neg (by omega), ← List.getD_eq_getElem?_getD]
theorem wds_set (n f g : Nat) : (wds n f).set 0 (hdN n g) = wds n g := by unfold wds; rw [List.set_set]
theorem makeL_get {n k : Nat} (h : k < n) : (makeL n).getD k 0 = (k : Int) + 1 := makeTo_get h
theorem makeL_last (n : Nat) : (makeL n).getD n 0 = 0 := makeTo_last
theorem makeL_wd {n : Nat} (hn : n ≤ 1000) : ∀ x ∈ makeL n, WdI x := by
  intro x hx
  unfold makeL makeTo at hx
  rcases List.mem_append.1 hx with h | h
  · obtain ⟨i, hi, rfl⟩ := List.mem_map.1 h
    have := List.mem_range.1 hi
    unfold WdI; omega
  · rw [List.eq_of_mem_replicate h]; exact wdI0
theorem wds_wd {n f : Nat} (hn : n ≤ 1000) (hf : f ≤ 1000000) : ∀ x ∈ wds n f, WdI x := by
  intro x hx
  rcases List.mem_or_eq_of_mem_set hx with h | rfl
  · exact makeL_wd hn x h
  · exact hdN_wd hn hf
theorem doA_load {m : List Int} {a : Int} (h0 : 0 ≤ a) (h1 : a < m.length) (hl : m.length ≤ 100000) : doA m (1, a, 0, 0) = (m, m.getD a.toNat 0, true, 0) := by
  unfold doA
  rw [if_neg (by simp [knownA]; omega), if_neg (by simp only; omega), if_pos rfl]
theorem doA_swap {m : List Int} {old new : Int} (h1 : 0 < m.length) (hl : m.length ≤ 100000) (hn : WdI new) : doA m (3, 0, old, new) = if m.getD 0 0 ≠ old then (m, m.getD 0 0, false, 0) else (m.set 0 new, m.getD 0 0, true, 0) := by
  have e : ∀ x, toA (3, 0, old, new) x = new := fun x => by unfold toA; rw [if_neg (by simp)]
  unfold doA
  rw [if_neg (by simp [knownA]; omega), if_neg (by simp only; omega), if_neg (by simp)]
  simp only [e]
  rw [if_neg (by rw [wdI_may.1 hn]; decide)]
  by_cases h : m.getD 0 0 = old
  · rw [if_neg (by rintro ⟨_, h2⟩; exact h2 h), if_neg (by simpa using h)]; rfl
  · rw [if_pos ⟨trivial, h⟩, if_pos h]; rfl
/-- a worker that takes, behind so many that were taken -/
structure PopI (n f : Nat) (w : Wk) : Prop where
  job : w.job = 1
  pcs : w.pc = 0 ∨ w.pc = 1 ∨ w.pc = 2
  r0 : w.r0 = 0
  r1 : WdI w.r1
  r2 : WdI w.r2
  out : WdI w.out
  stage : w.done = true ∨ w.pc = 0 ∨ (w.pc = 1 ∧ ∃ j, j < n ∧ j ≤ f ∧ w.r1 = hdN n j) ∨ (w.pc = 2 ∧ ∃ j, j < n ∧ j ≤ f ∧ w.r1 = hdN n j ∧ w.r2 = (makeL n).getD (j + 1) 0)
theorem PopI.fit {n f : Nat} {w : Wk} (h : PopI n f w) : FitW w := ⟨.inl h.job, h.pcs, by rw [h.r0]; exact ⟨by decide, by decide⟩, h.r1, h.r2, h.out⟩
theorem PopI.mono {n f g : Nat} {w : Wk} (h : PopI n f w) (hg : f ≤ g) : PopI n g w := by
  refine ⟨h.job, h.pcs, h.r0, h.r1, h.r2, h.out, ?_⟩
  rcases h.stage with h1 | h1 | ⟨h1, j, h2, h3, h4⟩ | ⟨h1, j, h2, h3, h4⟩
  · exact .inl h1
  · exact .inr (.inl h1)
  · exact .inr (.inr (.inl ⟨h1, j, h2, by omega, h4⟩))
  · exact .inr (.inr (.inr ⟨h1, j, h2, by omega, h4⟩))
theorem popI_new (n : Nat) : PopI n 0 popW := ⟨rfl, .inl rfl, rfl, wdI0, wdI0, wdI0, .inr (.inl rfl)⟩
theorem stepW_of {at0 : Int} {m : List Int} {w : Wk} {y : Ac} {m' : List Int} {x : Int} {b : Bool} (hy : accW at0 w = y) (hd : doA m y = (m', x, b, 0)) : stepW at0 m w = (m', behW w x b, 0) := by
  unfold stepW
  rw [hy, hd]
  rfl
/-- one step of a worker that takes -/
theorem pop_step {n f : Nat} {w : Wk} (hn : n ≤ 1000) (hf : f ≤ n) (h : PopI n f w) (hd : w.done = false) :
    ∃ u g, stepW 0 (wds n f) w = (wds n g, u, 0) ∧ PopI n g u ∧ g ≤ n ∧ ((g = f ∧ (u.done = true → u.out = -1 ∧ f = n)) ∨ (g = f + 1 ∧ w.pc = 2 ∧ u.done = true ∧ u.out = f)) := by
  have hl := wds_len n f
  have hjob := h.job
  rcases h.stage with h1 | h1 | ⟨h1, j, h2, h3, h4⟩ | ⟨h1, j, h2, h3, h4, h5⟩
  · rw [hd] at h1; cases h1
  · have hs := stepW_of (at0 := 0) (m := wds n f) (w := w) (y := (1, 0, 0, 0)) (by unfold accW; rw [if_pos h1]) (doA_load (by decide) (by omega) (by omega))
    rw [show (0 : Int).toNat = 0 from rfl, wds_get0] at hs
    have hH := hdN_H (f := f) hn
    by_cases hfn : f < n
    · rw [if_pos hfn] at hH
      have hb : behW w (hdN n f) true = { w with r1 := hdN n f, pc := 1 } := by
        unfold behW
        rw [if_pos h1, if_neg (by rw [hH]; omega)]
      rw [hb] at hs
      exact ⟨_, f, hs, ⟨h.job, .inr (.inl rfl), h.r0, hdN_wd hn (by omega), h.r2, h.out, .inr (.inr (.inl ⟨rfl, f, hfn, Nat.le_refl _, rfl⟩))⟩, hf, .inl ⟨rfl, fun e => by rw [show ({ w with r1 := hdN n f, pc := 1 } : Wk).done = w.done from rfl, hd] at e; cases e⟩⟩
    · rw [if_neg hfn] at hH
      have hb : behW w (hdN n f) true = { w with r1 := hdN n f, done := true, out := -1 } := by
        unfold behW
        rw [if_pos h1, if_pos ⟨hjob, hH⟩]
      rw [hb] at hs
      exact ⟨_, f, hs, ⟨h.job, h.pcs, h.r0, hdN_wd hn (by omega), h.r2, (show WdI (-1) from ⟨by decide, by decide⟩), .inl rfl⟩, hf, .inl ⟨rfl, fun _ => ⟨rfl, by omega⟩⟩⟩
  · have hH := hdN_H (f := j) hn
    rw [if_pos h2] at hH
    have hs := stepW_of (at0 := 0) (m := wds n f) (w := w) (y := (1, 0 + hdH w.r1, 0, 0)) (by unfold accW; rw [if_neg (by rw [h1]; decide), if_pos hjob, if_pos h1]) (doA_load (by rw [h4, hH]; omega) (by rw [h4, hH]; omega) (by omega))
    rw [h4, hH, show (0 + ((j : Int) + 1)).toNat = j + 1 by omega, wds_get n f (by omega)] at hs
    have hb : behW w ((makeL n).getD (j + 1) 0) true = { w with r2 := (makeL n).getD (j + 1) 0, pc := 2 } := by
      unfold behW
      rw [if_neg (by rw [h1]; decide), if_pos h1, if_pos hjob]
    rw [hb] at hs
    have hwd : WdI ((makeL n).getD (j + 1) 0) := by
      have := makeL_len n
      rw [List.getD_eq_getElem?_getD, List.getElem?_eq_getElem (by omega)]
      exact makeL_wd hn _ (List.getElem_mem _)
    exact ⟨_, f, hs, ⟨h.job, .inr (.inr rfl), h.r0, h.r1, hwd, h.out, .inr (.inr (.inr ⟨rfl, j, h2, h3, h4, rfl⟩))⟩, hf, .inl ⟨rfl, fun e => by rw [show ({ w with r2 := (makeL n).getD (j + 1) 0, pc := 2 } : Wk).done = w.done from rfl, hd] at e; cases e⟩⟩
  · have hH := hdN_H (f := j) hn
    have hC := hdN_C (f := j) hn
    rw [if_pos h2] at hH
    have hnew : (hdC w.r1 + 1) * 1048576 + w.r2 = hdN n (j + 1) := by
      rw [h4, h5, hC]
      unfold hdN
      by_cases hj : j + 1 < n
      · rw [if_pos hj, makeL_get hj]; omega
      · rw [if_neg hj, show j + 1 = n by omega, makeL_last]; omega
    have hsw := doA_swap (m := wds n f) (old := w.r1) (new := hdN n (j + 1)) (by omega) (by omega) (hdN_wd hn (by omega))
    rw [wds_get0, h4] at hsw
    have hy : accW 0 w = (3, 0, hdN n j, hdN n (j + 1)) := by
      unfold accW
      rw [if_neg (by rw [h1]; decide), if_pos hjob, if_neg (by rw [h1]; decide), hnew, h4]
    by_cases hjf : j = f
    · subst hjf
      rw [if_neg (by simp), wds_set] at hsw
      have hs := stepW_of hy hsw
      have hb : behW w (hdN n j) true = { w with done := true, out := hdH w.r1 - 1 } := by
        unfold behW
        rw [if_neg (by rw [h1]; decide), if_neg (by rw [h1]; decide), if_neg (by decide), if_pos hjob]
      rw [hb, h4, hH] at hs
      refine ⟨_, j + 1, hs, ⟨h.job, h.pcs, h.r0, hdN_wd hn (by omega), h.r2, ?_, .inl rfl⟩, by omega, .inr ⟨rfl, h1, rfl, ?_⟩⟩
      · unfold WdI; simp only; omega
      · simp only; omega
    · rw [if_pos (fun e => hjf (hdN_inj hn e).symm)] at hsw
      have hs := stepW_of hy hsw
      have hb : behW w (hdN n f) false = { w with pc := 0 } := by
        unfold behW
        rw [if_neg (by rw [h1]; decide), if_neg (by rw [h1]; decide), if_pos rfl]
      rw [hb] at hs
      exact ⟨_, f, hs, ⟨h.job, .inl rfl, h.r0, h.r1, h.r2, h.out, .inr (.inl rfl)⟩, hf, .inl ⟨rfl, fun e => by rw [show ({ w with pc := 0 } : Wk).done = w.done from rfl, hd] at e; cases e⟩⟩
end Go.Proofs.Ytocepdhjkhhpfaa
namespace Go.Proofs.Ytocepdhjkhhpfaa
set_option linter.unusedVariables false
set_option linter.unusedSimpArgs false

def topF : List Nat → Int
  | [] => 0
  | x :: _ => (x : Int) + 1
/-- nodes behind each other, as words tell them -/
def ChainF (m : List Int) : List Nat → Prop
  | [] => True
  | x :: r => m.getD (x + 1) 0 = topF r ∧ ChainF m r
theorem chain_set {m : List Int} {F : List Nat} (h : ChainF m F) (y : Nat) (v : Int) (hy : ∀ x ∈ F, x + 1 ≠ y) : ChainF (m.set y v) F := by
  induction F with
  | nil => trivial
  | cons x r ih =>
    refine ⟨?_, ih h.2 (fun z hz => hy z (List.mem_cons_of_mem _ hz))⟩
    rw [List.getD_eq_getElem?_getD, List.getElem?_set_ne (fun e => hy x (by simp) e.symm), ← List.getD_eq_getElem?_getD]
    exact h.1
/-- words that tell a free list: how often it was changed, the nodes -/
structure Stk (n c : Nat) (m : List Int) (F : List Nat) : Prop where
  len : m.length = n + 1
  head : m.getD 0 0 = (c : Int) * 1048576 + topF F
  links : ∀ k, 0 < k → 0 ≤ m.getD k 0 ∧ m.getD k 0 ≤ n
  chain : ChainF m F
  lt : ∀ x ∈ F, x < n
theorem topF_bd {n : Nat} {F : List Nat} (h : ∀ x ∈ F, x < n) : 0 ≤ topF F ∧ topF F ≤ n := by
  cases F with
  | nil => exact ⟨Int.le_refl 0, (show (0 : Int) ≤ n by omega)⟩
  | cons x r =>
    have := h x (by simp)
    show 0 ≤ (x : Int) + 1 ∧ (x : Int) + 1 ≤ n
    omega
theorem head_H {c : Nat} {t : Int} (h0 : 0 ≤ t) (h1 : t ≤ 1000) : hdH ((c : Int) * 1048576 + t) = t := by
  unfold hdH; rw [if_neg (by omega)]; omega
theorem head_C {c : Nat} {t : Int} (h0 : 0 ≤ t) (h1 : t ≤ 1000) : hdC ((c : Int) * 1048576 + t) = c := by
  unfold hdC; rw [if_neg (by omega)]; omega
/-- what a worker has read of the head -/
def ReadH (n c : Nat) (F : List Nat) (r : Int) (k : Nat) (t : Int) : Prop := r = (k : Int) * 1048576 + t ∧ k ≤ c ∧ 0 ≤ t ∧ t ≤ n ∧ (k = c → t = topF F)
/-- a worker at a free list -/
structure WkI (n c : Nat) (m : List Int) (F : List Nat) (w : Wk) : Prop where
  job : w.job = 1 ∨ w.job = 2
  pcs : w.pc = 0 ∨ w.pc = 1 ∨ w.pc = 2
  r0 : 0 ≤ w.r0 ∧ w.r0 ≤ n
  r1 : WdI w.r1
  r2 : WdI w.r2
  out : -1 ≤ w.out ∧ w.out ≤ n
  push : w.job = 2 → w.done = true → w.out = w.r0
  room : w.job = 2 → w.r0 < n
  stage : w.done = true ∨ w.pc = 0 ∨ (∃ k t, ReadH n c F w.r1 k t ∧ (w.job = 1 → 1 ≤ t) ∧ (w.pc = 2 → if w.job = 1 then 0 ≤ w.r2 ∧ w.r2 ≤ n ∧ (k = c → w.r2 = m.getD t.toNat 0) else m.getD (w.r0.toNat + 1) 0 = t))
theorem WkI.fit {n c : Nat} {m : List Int} {F : List Nat} {w : Wk} (h : WkI n c m F w) (hn : n ≤ 1000) : FitW w :=
  ⟨h.job, h.pcs, ⟨h.r0.1, by have := h.r0.2; omega⟩, h.r1, h.r2, by have := h.out; unfold WdI; omega⟩
/-- the nodes that a worker has -/
def ownN (w : Wk) : List Nat := if w.job = 2 then (if w.done then [] else [w.r0.toNat]) else (if w.done ∧ 0 ≤ w.out then [w.out.toNat] else [])
def ownL (l : List Wk) : List Nat := l.flatMap ownN
theorem ownL_split {l : List Wk} {T : Nat} (h : T < l.length) (u : Wk) : ∃ a b, l = a ++ l.getD T deadW :: b ∧ l.set T u = a ++ u :: b ∧ a.length = T := by
  refine ⟨l.take T, l.drop (T + 1), ?_, ?_, by rw [List.length_take]; omega⟩
  · rw [List.getD_eq_getElem?_getD, List.getElem?_eq_getElem h]
    simp
  · rw [List.set_eq_take_append_cons_drop, if_pos h]
theorem ownL_app (a b : List Wk) (x : Wk) : ownL (a ++ x :: b) = ownL a ++ (ownN x ++ ownL b) := by unfold ownL; simp
/-- all nodes are somewhere, each once -/
def AllN (n : Nat) (F : List Nat) (l : List Wk) (E : List Nat) : Prop := List.Perm (F ++ (ownL l ++ E)) (List.range n)
theorem AllN.nodup {n : Nat} {F : List Nat} {l : List Wk} {E : List Nat} (h : AllN n F l E) : (F ++ (ownL l ++ E)).Nodup := h.nodup_iff.2 List.nodup_range
/-- a node that a worker has is neither free nor another worker's -/
theorem own_apart {n : Nat} {F : List Nat} {a b : List Wk} {x : Wk} {E : List Nat} (h : AllN n F (a ++ x :: b) E) {y : Nat} (hy : y ∈ ownN x) : y ∉ F ∧ (∀ z ∈ a, y ∉ ownN z) ∧ (∀ z ∈ b, y ∉ ownN z) := by
  have hd := h.nodup
  rw [ownL_app] at hd
  simp only [List.nodup_append, List.mem_append, List.append_assoc] at hd
  refine ⟨fun hF => ?_, fun z hz hyz => ?_, fun z hz hyz => ?_⟩
  · exact hd.2.2 y hF y (.inr (.inl hy)) rfl
  · have : y ∈ ownL a := by unfold ownL; exact List.mem_flatMap.2 ⟨z, hz, hyz⟩
    exact hd.2.1.2.2 y this y (.inl hy) rfl
  · have : y ∈ ownL b := by unfold ownL; exact List.mem_flatMap.2 ⟨z, hz, hyz⟩
    exact hd.2.1.2.1.2.2 y hy y (.inl this) rfl
theorem doA_write {m : List Int} {a v : Int} (h0 : 0 ≤ a) (h1 : a < m.length) (hl : m.length ≤ 100000) (hv : WdI v) : doA m (2, a, 0, v) = (m.set a.toNat v, m.getD a.toNat 0, true, 0) := by
  have e : ∀ x, toA (2, a, 0, v) x = v := fun x => by unfold toA; rw [if_neg (by simp)]
  unfold doA
  rw [if_neg (by simp [knownA]; omega), if_neg (by simp only; omega), if_neg (by simp)]
  simp only [e]
  rw [if_neg (by rw [wdI_may.1 hv]; decide), if_neg (by rintro ⟨h2, _⟩; exact absurd h2 (by decide))]
/-! ### one step -/
/-- how a worker stands when words and nodes change, but not what it has read -/
theorem WkI.again {n c c' : Nat} {m m' : List Int} {F F' : List Nat} {w : Wk} (h : WkI n c m F w) (hc : c ≤ c') (hF : c' = c → F' = F) (hm : w.done = false → w.pc = 2 → w.job = 2 → m'.getD (w.r0.toNat + 1) 0 = m.getD (w.r0.toNat + 1) 0)
    (ht : c' = c → ∀ x ∈ F, m'.getD (x + 1) 0 = m.getD (x + 1) 0) : WkI n c' m' F' w := by
  refine ⟨h.job, h.pcs, h.r0, h.r1, h.r2, h.out, h.push, h.room, ?_⟩
  cases hd : w.done with
  | true => exact .inl rfl
  | false =>
    rcases h.stage with h1 | h1 | ⟨k, t, ⟨e1, e2, e3, e4, e5⟩, hj, hp⟩
    · rw [hd] at h1; cases h1
    · exact .inr (.inl h1)
    · refine .inr (.inr ⟨k, t, ⟨e1, by omega, e3, e4, fun e => ?_⟩, hj, fun h2 => ?_⟩)
      · have : c' = c := by omega
        rw [hF this]
        exact e5 (by omega)
      · have hp2 := hp h2
        by_cases hjob : w.job = 1
        · rw [if_pos hjob] at hp2 ⊢
          refine ⟨hp2.1, hp2.2.1, fun e => ?_⟩
          have hcc : c' = c := by omega
          have hk : k = c := by omega
          rw [hp2.2.2 hk]
          have ht1 := hj hjob
          have htF := e5 hk
          cases F with
          | nil => rw [htF] at ht1; exact absurd ht1 (by decide)
          | cons x r =>
            have : t.toNat = x + 1 := by rw [htF]; show ((x : Int) + 1).toNat = x + 1; omega
            rw [this]
            exact (ht hcc x (by simp)).symm
        · rw [if_neg hjob] at hp2 ⊢
          have hj2 : w.job = 2 := by rcases h.job with h1 | h1; exact absurd h1 hjob; exact h1
          rw [hm hd h2 hj2]
          exact hp2
/-- what is kept by all -/
structure CrowdI (n c : Nat) (m : List Int) (F : List Nat) (l : List Wk) (E : List Nat) : Prop where
  stk : Stk n c m F
  all : AllN n F l E
  wks : ∀ w ∈ l, WkI n c m F w
def succN (l : List Wk) : Nat := (l.filter fun w => w.done && decide (0 ≤ w.out)).length
theorem succN_app (a b : List Wk) (x : Wk) : succN (a ++ x :: b) = succN a + (if x.done && decide (0 ≤ x.out) then 1 else 0) + succN b := by
  unfold succN
  rw [List.filter_append, List.length_append, List.filter_cons]
  split <;> simp <;> omega
end Go.Proofs.Ytocepdhjkhhpfaa
namespace Go.Proofs.Ytocepdhjkhhpfaa
set_option linter.unusedVariables false
set_option linter.unusedSimpArgs false

/-- how far a worker is from its end, if none else comes between -/
def gW (c : Nat) (w : Wk) : Nat := if w.done then 0 else if w.pc = 0 then 3 else if hdC w.r1 = (c : Int) then (3 - w.pc).toNat else (6 - w.pc).toNat
theorem gW_le (c : Nat) {w : Wk} (h : w.pc = 0 ∨ w.pc = 1 ∨ w.pc = 2) : gW c w ≤ 5 := by
  unfold gW
  split
  · omega
  · split
    · omega
    · split <;> omega
theorem gW_more (c c' : Nat) {w : Wk} (h : w.pc = 0 ∨ w.pc = 1 ∨ w.pc = 2) : gW c' w ≤ gW c w + 3 := by
  unfold gW
  split
  · omega
  · split
    · omega
    · split <;> split <;> omega
theorem gW_next {c : Nat} {w u : Wk} (h0 : w.pc = 1) (hd : w.done = false) (hu : u.done = false) (hp : u.pc = 2) (hr : u.r1 = w.r1) : gW c u < gW c w := by
  unfold gW
  rw [hd, hu, h0, hp, hr]
  by_cases hk : hdC w.r1 = (c : Int) <;> simp [hk]
theorem gW_back {c : Nat} {w u : Wk} (h0 : w.pc = 2) (hd : w.done = false) (hu : u.done = false) (hp : u.pc = 0) (hk : hdC w.r1 ≠ (c : Int)) : gW c u < gW c w := by
  unfold gW
  rw [hd, hu, h0, hp]
  simp [hk]
/-- what one step has done -/
structure StepI (n c c' : Nat) (F F' : List Nat) (w u : Wk) : Prop where
  job : u.job = w.job
  r0 : u.r0 = w.r0
  cases : (c' = c ∧ F' = F ∧ (u.done = true → w.job = 1 ∧ u.out = -1 ∧ F = []) ∧ gW c u < gW c w) ∨ (c' = c + 1 ∧ u.done = true ∧ 0 ≤ u.out ∧ (w.job = 1 → F ≠ [] ∧ F.length = F'.length + 1))
theorem crowd_make {n c' : Nat} {m' : List Int} {F' : List Nat} {l a b : List Wk} {T : Nat} {u : Wk} {E : List Nat} (hset : l.set T u = a ++ u :: b) (hS : Stk n c' m' F') (hA : AllN n F' (a ++ u :: b) E) (hu : WkI n c' m' F' u)
    (hoth : ∀ z, z ∈ a ∨ z ∈ b → WkI n c' m' F' z) : CrowdI n c' m' F' (l.set T u) E := by
  rw [hset]
  refine ⟨hS, hA, fun z hz => ?_⟩
  rcases List.mem_append.1 hz with h | h
  · exact hoth z (.inl h)
  · rcases List.mem_cons.1 h with rfl | h
    · exact hu
    · exact hoth z (.inr h)
theorem all_same {n : Nat} {F : List Nat} {a b : List Wk} {w u : Wk} {E : List Nat} (h : AllN n F (a ++ w :: b) E) (he : ownN u = ownN w) : AllN n F (a ++ u :: b) E := by
  unfold AllN at h ⊢
  rw [ownL_app] at h ⊢
  rw [he]
  exact h
theorem crowd_step {n c : Nat} {m : List Int} {F : List Nat} {l : List Wk} {E : List Nat} {T : Nat} (hn : n ≤ 1000) (hc : c ≤ 1000000) (h : CrowdI n c m F l E) (hT : T < l.length) (hd : (l.getD T deadW).done = false) :
    ∃ m' u F' c', stepW 0 m (l.getD T deadW) = (m', u, 0) ∧ CrowdI n c' m' F' (l.set T u) E ∧ StepI n c c' F F' (l.getD T deadW) u := by
  have hsplit := fun u => ownL_split hT u
  obtain ⟨w, hw⟩ : ∃ w, l.getD T deadW = w := ⟨_, rfl⟩
  rw [hw] at hd hsplit ⊢
  have hmem : w ∈ l := by
    obtain ⟨a, b, e, _, _⟩ := hsplit w
    rw [e]; simp
  have hI := h.wks w hmem
  have hS := h.stk
  have hlen := hS.len
  have htop := topF_bd hS.lt
  have hjob := hI.job
  by_cases h0 : w.pc = 0
  · have h1 := h0
    have hs := stepW_of (at0 := 0) (m := m) (w := w) (y := (1, 0, 0, 0)) (by unfold accW; rw [if_pos h1]) (doA_load (by decide) (by omega) (by omega))
    rw [show (0 : Int).toNat = 0 from rfl, hS.head] at hs
    have hH := head_H (c := c) htop.1 (by omega)
    have hC := head_C (c := c) htop.1 (by omega)
    have hg : gW c w = 3 := by unfold gW; rw [hd, if_neg (by decide), if_pos h1]
    have hwd : WdI ((c : Int) * 1048576 + topF F) := by unfold WdI; omega
    by_cases hend : w.job = 1 ∧ topF F = 0
    · have hb : behW w ((c : Int) * 1048576 + topF F) true = { w with r1 := (c : Int) * 1048576 + topF F, done := true, out := -1 } := by
        unfold behW; rw [if_pos h1, if_pos (by rw [hH]; exact hend)]
      rw [hb] at hs
      obtain ⟨a, b, hl, hset, _⟩ := hsplit { w with r1 := (c : Int) * 1048576 + topF F, done := true, out := -1 }
      have hF : F = [] := by
        cases F with
        | nil => rfl
        | cons x r => have : (x : Int) + 1 = 0 := hend.2; omega
      refine ⟨m, _, F, c, hs, crowd_make hset hS (all_same (w := w) (by rw [← hl]; exact h.all) ?_) ⟨hI.job, hI.pcs, hI.r0, hwd, hI.r2, ⟨Int.le_refl _, (show (-1 : Int) ≤ n by omega)⟩, fun e => ?_, hI.room, .inl rfl⟩ (fun z hz => h.wks z (by rw [hl]; simp; rcases hz with hz | hz; exact .inl hz; exact .inr (.inr hz))), ⟨rfl, rfl, .inl ⟨rfl, rfl, fun _ => ⟨hend.1, rfl, hF⟩, ?_⟩⟩⟩
      · unfold ownN
        simp only [hend.1]
        rw [if_neg (by decide), if_neg (by decide), if_neg (by simp), if_neg (by simp [hd])]
      · exact absurd (hend.1.symm.trans e) (by decide)
      · rw [hg]; unfold gW; simp
    · have hb : behW w ((c : Int) * 1048576 + topF F) true = { w with r1 := (c : Int) * 1048576 + topF F, pc := 1 } := by
        unfold behW; rw [if_pos h1, if_neg (by rw [hH]; exact hend)]
      rw [hb] at hs
      obtain ⟨a, b, hl, hset, _⟩ := hsplit { w with r1 := (c : Int) * 1048576 + topF F, pc := 1 }
      refine ⟨m, _, F, c, hs, crowd_make hset hS (all_same (w := w) (by rw [← hl]; exact h.all) rfl) ⟨hI.job, .inr (.inl rfl), hI.r0, hwd, hI.r2, hI.out, hI.push, hI.room, .inr (.inr ⟨c, topF F, ⟨rfl, Nat.le_refl _, htop.1, htop.2, fun _ => rfl⟩, fun e => ?_, fun e => ?_⟩)⟩ (fun z hz => h.wks z (by rw [hl]; simp; rcases hz with hz | hz; exact .inl hz; exact .inr (.inr hz))), ⟨rfl, rfl, .inl ⟨rfl, rfl, fun e => ?_, ?_⟩⟩⟩
      · have : topF F ≠ 0 := fun e2 => hend ⟨e, e2⟩
        omega
      · exact absurd e (by show ¬ (1 : Int) = 2; decide)
      · have e2 : w.done = true := e
        rw [hd] at e2; cases e2
      · rw [hg]; unfold gW
        simp only [hd]
        rw [if_neg (by decide), if_neg (by decide), if_pos hC]
        decide
  · have hst : ∃ k t, ReadH n c F w.r1 k t ∧ (w.job = 1 → 1 ≤ t) ∧ (w.pc = 2 → if w.job = 1 then 0 ≤ w.r2 ∧ w.r2 ≤ n ∧ (k = c → w.r2 = m.getD t.toNat 0) else m.getD (w.r0.toNat + 1) 0 = t) := by
      rcases hI.stage with h1 | h1 | h1
      · rw [hd] at h1; cases h1
      · exact absurd h1 h0
      · exact h1
    obtain ⟨k, t, ⟨e1, e2, e3, e4, e5⟩, hj, hp⟩ := hst
    have hH : hdH w.r1 = t := by rw [e1]; exact head_H e3 (by omega)
    have hC : hdC w.r1 = k := by rw [e1]; exact head_C e3 (by omega)
    have hoth : ∀ {a b : List Wk}, l = a ++ w :: b → ∀ z, z ∈ a ∨ z ∈ b → z ∈ l := fun hl z hz => by rw [hl]; simp; rcases hz with hz | hz; exact .inl hz; exact .inr (.inr hz)
    have hr0 := hI.r0
    have hr0n : (w.r0.toNat : Int) = w.r0 := by omega
    have hown : ∀ u : Wk, u.job = w.job → u.r0 = w.r0 → u.done = false → ownN u = ownN w := fun u q1 q2 q3 => by unfold ownN; rw [q1, q2, q3, hd]; simp
    by_cases h1 : w.pc = 1
    · by_cases hjob1 : w.job = 1
      · -- which one is behind the first
        have ht1 := hj hjob1
        have hlk := hS.links t.toNat (by omega)
        have hs := stepW_of (at0 := 0) (m := m) (w := w) (y := (1, 0 + hdH w.r1, 0, 0)) (by unfold accW; rw [if_neg h0, if_pos hjob1, if_pos h1]) (doA_load (by rw [hH]; omega) (by rw [hH]; omega) (by omega))
        rw [hH, show (0 + t).toNat = t.toNat by omega] at hs
        have hb : behW w (m.getD t.toNat 0) true = { w with r2 := m.getD t.toNat 0, pc := 2 } := by
          unfold behW; rw [if_neg h0, if_pos h1, if_pos hjob1]
        rw [hb] at hs
        obtain ⟨a, b, hl, hset, _⟩ := hsplit { w with r2 := m.getD t.toNat 0, pc := 2 }
        refine ⟨m, _, F, c, hs, crowd_make hset hS (all_same (w := w) (by rw [← hl]; exact h.all) (hown _ rfl rfl hd)) ⟨hI.job, .inr (.inr rfl), hI.r0, hI.r1, by unfold WdI; simp only; omega, hI.out, hI.push, hI.room, .inr (.inr ⟨k, t, ⟨e1, e2, e3, e4, e5⟩, hj, fun _ => by rw [if_pos hjob1]; exact ⟨hlk.1, hlk.2, fun _ => rfl⟩⟩)⟩ (fun z hz => h.wks z (hoth hl z hz)), ⟨rfl, rfl, .inl ⟨rfl, rfl, fun e => ?_, ?_⟩⟩⟩
        · have e2 : w.done = true := e
          rw [hd] at e2; cases e2
        · exact gW_next h1 hd hd rfl rfl
      · -- the node is written
        have hjob2 : w.job = 2 := by rcases hjob with q | q; exact absurd q hjob1; exact q
        have hrm := hI.room hjob2
        have hs := stepW_of (at0 := 0) (m := m) (w := w) (y := (2, 0 + 1 + w.r0, 0, hdH w.r1)) (by unfold accW; rw [if_neg h0, if_neg hjob1, if_pos h1]) (doA_write (by omega) (by omega) (by omega) (by rw [hH]; unfold WdI; omega))
        rw [hH, show (0 + 1 + w.r0).toNat = w.r0.toNat + 1 by omega] at hs
        have hb : behW w (m.getD (w.r0.toNat + 1) 0) true = { w with pc := 2 } := by
          unfold behW; rw [if_neg h0, if_pos h1, if_neg hjob1]
        rw [hb] at hs
        obtain ⟨a, b, hl, hset, _⟩ := hsplit { w with pc := 2 }
        have hmine : w.r0.toNat ∈ ownN w := by unfold ownN; rw [if_pos hjob2, hd]; simp
        have hall := h.all
        rw [hl] at hall
        obtain ⟨q1, q2, q3⟩ := own_apart hall hmine
        have hget : ∀ y, y ≠ w.r0.toNat + 1 → (m.set (w.r0.toNat + 1) t).getD y 0 = m.getD y 0 := fun y hy => by
          rw [List.getD_eq_getElem?_getD, List.getElem?_set_ne (fun e => hy e.symm), ← List.getD_eq_getElem?_getD]
        have hgot : (m.set (w.r0.toNat + 1) t).getD (w.r0.toNat + 1) 0 = t := by
          rw [List.getD_eq_getElem?_getD, List.getElem?_set, if_pos rfl, if_pos (by omega)]; rfl
        have hne : ∀ x ∈ F, x + 1 ≠ w.r0.toNat + 1 := fun x hx e => by
          have e9 : x = w.r0.toNat := by omega
          rw [e9] at hx
          exact q1 hx
        have hS' : Stk n c (m.set (w.r0.toNat + 1) t) F := by
          refine ⟨by rw [List.length_set]; exact hlen, by rw [hget 0 (by omega)]; exact hS.head, fun y hy => ?_, chain_set hS.chain _ _ hne, hS.lt⟩
          by_cases e : y = w.r0.toNat + 1
          · rw [e, hgot]; exact ⟨e3, e4⟩
          · rw [hget y e]; exact hS.links y hy
        refine ⟨_, _, F, c, hs, crowd_make hset hS' (all_same (w := w) hall (hown _ rfl rfl hd)) ⟨hI.job, .inr (.inr rfl), hI.r0, hI.r1, hI.r2, hI.out, hI.push, hI.room, .inr (.inr ⟨k, t, ⟨e1, e2, e3, e4, e5⟩, hj, fun _ => by rw [if_neg hjob1]; exact hgot⟩)⟩ (fun z hz => ?_), ⟨rfl, rfl, .inl ⟨rfl, rfl, fun e => ?_, ?_⟩⟩⟩
        · have hz2 := h.wks z (hoth hl z hz)
          refine hz2.again (Nat.le_refl _) (fun _ => rfl) (fun z1 z2 z3 => hget _ (fun e => ?_)) (fun _ x hx => hget _ (fun e => ?_))
          · have hzm : w.r0.toNat ∈ ownN z := by unfold ownN; rw [if_pos z3, z1, if_neg (by decide)]; simp; omega
            rcases hz with hz | hz
            · exact q2 z hz hzm
            · exact q3 z hz hzm
          · have : x = w.r0.toNat := by omega
            rw [this] at hx; exact q1 hx
        · have e2 : w.done = true := e
          rw [hd] at e2; cases e2
        · exact gW_next h1 hd hd rfl rfl
    · have h2 : w.pc = 2 := by rcases hI.pcs with q | q | q; exact absurd q h0; exact absurd q h1; exact q
      have hp2 := hp h2
      have heq : m.getD 0 0 = w.r1 ↔ k = c := by
        constructor
        · intro e
          rw [hS.head, e1] at e
          have g1 := head_C (c := c) htop.1 (by omega)
          have g2 := head_C (c := k) e3 (by omega)
          rw [e, g2] at g1
          omega
        · intro e
          rw [hS.head, e1, e5 e, e]
      have hkc : k ≤ 1000000 := by omega
      have hset0 : ∀ (v : Int) y, y ≠ 0 → (m.set 0 v).getD y 0 = m.getD y 0 := fun v y hy => by
        rw [List.getD_eq_getElem?_getD, List.getElem?_set_ne (fun e => hy e.symm), ← List.getD_eq_getElem?_getD]
      have hgot0 : ∀ v : Int, (m.set 0 v).getD 0 0 = v := fun v => by
        rw [List.getD_eq_getElem?_getD, List.getElem?_set, if_pos rfl, if_pos (by omega)]; rfl
      -- who has read an older head goes back
      have hback : ∀ new : Int, WdI new → accW 0 w = (3, 0, w.r1, new) → k ≠ c → ∃ m' u F' c', stepW 0 m w = (m', u, 0) ∧ CrowdI n c' m' F' (l.set T u) E ∧ StepI n c c' F F' w u := by
        intro new hnew hy hkc2
        have hsw := doA_swap (m := m) (old := w.r1) (new := new) (by omega) (by omega) hnew
        rw [if_pos (fun e => hkc2 (heq.1 e))] at hsw
        have hs := stepW_of hy hsw
        have hb : behW w (m.getD 0 0) false = { w with pc := 0 } := by unfold behW; rw [if_neg h0, if_neg h1, if_pos rfl]
        rw [hb] at hs
        obtain ⟨a, b, hl, hset, _⟩ := hsplit { w with pc := 0 }
        refine ⟨m, _, F, c, hs, crowd_make hset hS (all_same (w := w) (by rw [← hl]; exact h.all) (hown _ rfl rfl hd)) ⟨hI.job, .inl rfl, hI.r0, hI.r1, hI.r2, hI.out, hI.push, hI.room, .inr (.inl rfl)⟩ (fun z hz => h.wks z (hoth hl z hz)), ⟨rfl, rfl, .inl ⟨rfl, rfl, fun e => ?_, gW_back h2 hd hd rfl (by rw [hC]; omega)⟩⟩⟩
        have e2 : w.done = true := e
        rw [hd] at e2; cases e2
      by_cases hjob1 : w.job = 1
      · rw [if_pos hjob1] at hp2
        have ht1 := hj hjob1
        have hy : accW 0 w = (3, 0, w.r1, (k + 1) * 1048576 + w.r2) := by unfold accW; rw [if_neg h0, if_pos hjob1, if_neg h1, hC]
        have hnew : WdI (((k : Int) + 1) * 1048576 + w.r2) := by unfold WdI; omega
        by_cases hkc2 : k = c
        · subst hkc2
          have hF := e5 rfl
          cases hFe : F with
          | nil => rw [hFe] at hF; rw [hF] at ht1; exact absurd ht1 (by decide)
          | cons x r =>
            have htx : t = (x : Int) + 1 := by rw [hF, hFe]; rfl
            have hsw := doA_swap (m := m) (old := w.r1) (new := ((k : Int) + 1) * 1048576 + w.r2) (by omega) (by omega) hnew
            rw [if_neg (by rw [heq.2 rfl]; simp)] at hsw
            have hs := stepW_of hy hsw
            have hb : behW w (m.getD 0 0) true = { w with done := true, out := t - 1 } := by unfold behW; rw [if_neg h0, if_neg h1, if_neg (by decide), if_pos hjob1, hH]
            rw [hb] at hs
            obtain ⟨a, b, hl, hset, _⟩ := hsplit { w with done := true, out := t - 1 }
            have hch := hS.chain
            have hlt := hS.lt
            have hall := h.all
            rw [hl] at hall
            rw [hFe] at hch hlt hall
            have hr2 : w.r2 = topF r := by rw [hp2.2.2 rfl, show t.toNat = x + 1 by omega]; exact hch.1
            have hS' : Stk n (k + 1) (m.set 0 (((k : Int) + 1) * 1048576 + w.r2)) r := by
              refine ⟨by rw [List.length_set]; exact hlen, by rw [hgot0, hr2]; rw [show ((k + 1 : Nat) : Int) = (k : Int) + 1 by omega], fun y hy => by rw [hset0 _ y (by omega)]; exact hS.links y hy, chain_set hch.2 _ _ (fun z _ => by omega), fun z hz => hlt z (List.mem_cons_of_mem _ hz)⟩
            have hxn := hlt x (by simp)
            refine ⟨_, _, r, k + 1, hs, crowd_make hset hS' ?_ ⟨hI.job, hI.pcs, hI.r0, hI.r1, hI.r2, ⟨by show -1 ≤ t - 1; omega, by show t - 1 ≤ (n : Int); omega⟩, fun e => absurd (hjob1.symm.trans e) (by decide), hI.room, .inl rfl⟩ (fun z hz => ?_), ⟨rfl, rfl, .inr ⟨rfl, rfl, by show 0 ≤ t - 1; omega, fun _ => ⟨by simp, by simp⟩⟩⟩⟩
            · unfold AllN at hall ⊢
              rw [ownL_app] at hall ⊢
              have o1 : ownN w = [] := by unfold ownN; rw [if_neg (by rw [hjob1]; decide), hd]; simp
              have o2 : ownN { w with done := true, out := t - 1 } = [x] := by
                unfold ownN
                simp only [hjob1]
                rw [if_neg (by decide), if_pos ⟨trivial, by omega⟩]
                congr 1
                omega
              rw [o1] at hall
              rw [o2]
              refine List.Perm.trans ?_ hall
              simp only [List.nil_append, List.append_assoc, List.cons_append]
              exact (List.perm_middle (l₁ := r ++ ownL a)).trans (by simp) |>.trans (List.Perm.refl _) |> fun q => by simpa using q
            · exact (h.wks z (hoth hl z hz)).again (by omega) (fun e => absurd e (by omega)) (fun _ _ _ => hset0 _ _ (by omega)) (fun e => absurd e (by omega))
        · exact hback _ hnew hy hkc2
      · have hjob2 : w.job = 2 := by rcases hjob with q | q; exact absurd q hjob1; exact q
        rw [if_neg hjob1] at hp2
        have hrm := hI.room hjob2
        have hy : accW 0 w = (3, 0, w.r1, (k + 1) * 1048576 + (w.r0 + 1)) := by unfold accW; rw [if_neg h0, if_neg hjob1, if_neg h1, hC]
        have hnew : WdI (((k : Int) + 1) * 1048576 + (w.r0 + 1)) := by unfold WdI; omega
        by_cases hkc2 : k = c
        · subst hkc2
          have hF := e5 rfl
          have hsw := doA_swap (m := m) (old := w.r1) (new := ((k : Int) + 1) * 1048576 + (w.r0 + 1)) (by omega) (by omega) hnew
          rw [if_neg (by rw [heq.2 rfl]; simp)] at hsw
          have hs := stepW_of hy hsw
          have hb : behW w (m.getD 0 0) true = { w with done := true, out := w.r0 } := by unfold behW; rw [if_neg h0, if_neg h1, if_neg (by decide), if_neg hjob1]
          rw [hb] at hs
          obtain ⟨a, b, hl, hset, _⟩ := hsplit { w with done := true, out := w.r0 }
          have hall := h.all
          rw [hl] at hall
          have hS' : Stk n (k + 1) (m.set 0 (((k : Int) + 1) * 1048576 + (w.r0 + 1))) (w.r0.toNat :: F) := by
            refine ⟨by rw [List.length_set]; exact hlen, ?_, fun y hy => by rw [hset0 _ y (by omega)]; exact hS.links y hy, ⟨?_, chain_set hS.chain _ _ (fun z _ => by omega)⟩, fun z hz => ?_⟩
            · rw [hgot0]
              show _ = ((k + 1 : Nat) : Int) * 1048576 + ((w.r0.toNat : Int) + 1)
              omega
            · rw [hset0 _ _ (by omega), hp2, hF]
            · rcases List.mem_cons.1 hz with rfl | hz
              · omega
              · exact hS.lt z hz
          refine ⟨_, _, w.r0.toNat :: F, k + 1, hs, crowd_make hset hS' ?_ ⟨hI.job, hI.pcs, hI.r0, hI.r1, hI.r2, ⟨by show -1 ≤ w.r0; omega, by show w.r0 ≤ (n : Int); omega⟩, fun _ _ => rfl, hI.room, .inl rfl⟩ (fun z hz => ?_), ⟨rfl, rfl, .inr ⟨rfl, rfl, by show 0 ≤ w.r0; omega, fun e => absurd (hjob2.symm.trans e) (by decide)⟩⟩⟩
          · unfold AllN at hall ⊢
            rw [ownL_app] at hall ⊢
            have o1 : ownN w = [w.r0.toNat] := by unfold ownN; rw [if_pos hjob2, hd]; simp
            have o2 : ownN { w with done := true, out := w.r0 } = [] := by unfold ownN; simp [hjob2]
            rw [o1] at hall
            rw [o2]
            refine List.Perm.trans ?_ hall
            have q := (List.perm_middle (a := w.r0.toNat) (l₁ := F ++ ownL a) (l₂ := ownL b ++ E)).symm
            simpa using q
          · exact (h.wks z (hoth hl z hz)).again (by omega) (fun e => absurd e (by omega)) (fun _ _ _ => hset0 _ _ (by omega)) (fun e => absurd e (by omega))
        · exact hback _ hnew hy hkc2
end Go.Proofs.Ytocepdhjkhhpfaa
namespace Go.Proofs.Ytocepdhjkhhpfaa
set_option linter.unusedVariables false
set_option linter.unusedSimpArgs false

def muW (K c : Nat) (w : Wk) : Nat := if w.done then 0 else gW c w + 4 * K
def muL (K c : Nat) (l : List Wk) : Nat := (l.map (muW K c)).sum
theorem muL_app (K c : Nat) (a b : List Wk) (x : Wk) : muL K c (a ++ x :: b) = muL K c a + (muW K c x + muL K c b) := by unfold muL; simp
theorem gW_pos {c : Nat} {w : Wk} (h : w.pc = 0 ∨ w.pc = 1 ∨ w.pc = 2) (hd : w.done = false) : 1 ≤ gW c w := by
  unfold gW
  rw [hd, if_neg (by decide)]
  split
  · omega
  · split <;> omega
theorem muL_more {K c c' : Nat} {l : List Wk} (h : ∀ w ∈ l, w.pc = 0 ∨ w.pc = 1 ∨ w.pc = 2) : muL K c' l ≤ muL K c l + 3 * l.length := by
  induction l with
  | nil => simp [muL]
  | cons x l ih =>
    have h1 := ih (fun w hw => h w (List.mem_cons_of_mem _ hw))
    have h2 := gW_more c c' (h x (by simp))
    have e : ∀ c, muL K c (x :: l) = muW K c x + muL K c l := fun c => by unfold muL; simp
    rw [e, e, List.length_cons]
    unfold muW
    split <;> omega
theorem done_of_many {l : List Wk} (h : manyP (leftW l) = 0) : ∀ w ∈ l, w.done = true := by
  intro w hw
  obtain ⟨j, hj, rfl⟩ := List.getElem_of_mem hw
  cases hd : l[j].done with
  | true => rfl
  | false =>
    have h1 := leftW_get l hj
    rw [List.getD_eq_getElem?_getD (l := l), List.getElem?_eq_getElem hj, Option.getD_some, hd, if_neg (by decide)] at h1
    have := live_many (l := leftW l) (p := j) (by omega)
    omega
theorem many_of_done {l : List Wk} (h : ∀ w ∈ l, w.done = true) : manyP (leftW l) = 0 := by
  rcases Nat.eq_zero_or_pos (manyP (leftW l)) with h0 | h0
  · exact h0
  · obtain ⟨k, hk⟩ := totP_live _ (many_pos.1 h0)
    have hl := live_lt hk
    rw [leftW_len] at hl
    rw [leftW_get l hl] at hk
    have := h (l.getD k deadW) (by rw [List.getD_eq_getElem?_getD, List.getElem?_eq_getElem hl]; exact List.getElem_mem hl)
    rw [this] at hk
    simp at hk
/-- what became of a crowd -/
structure Went (c : Nat) (F : List Nat) (l : List Wk) (c' : Nat) (F' : List Nat) (l' : List Wk) : Prop where
  len : l'.length = l.length
  same : ∀ j, j < l.length → (l'.getD j deadW).job = (l.getD j deadW).job ∧ (l'.getD j deadW).r0 = (l.getD j deadW).r0
  cnt : c' + succN l = c + succN l'
  pops : (∀ j, j < l.length → (l.getD j deadW).job = 1) → (∀ w ∈ l, w.done = true → w.out = -1 → F = []) → (∀ w ∈ l', w.done = true → w.out = -1 → F' = []) ∧ F.length + c = F'.length + c'
theorem Went.refl (c : Nat) (F : List Nat) (l : List Wk) : Went c F l c F l := ⟨rfl, fun _ _ => ⟨rfl, rfl⟩, rfl, fun _ h => ⟨h, rfl⟩⟩
theorem Went.trans {c c1 c2 : Nat} {F F1 F2 : List Nat} {l l1 l2 : List Wk} (h : Went c F l c1 F1 l1) (g : Went c1 F1 l1 c2 F2 l2) : Went c F l c2 F2 l2 := by
  refine ⟨g.len.trans h.len, fun j hj => ?_, by have := h.cnt; have := g.cnt; omega, fun hj hF => ?_⟩
  · obtain ⟨a1, a2⟩ := h.same j hj
    obtain ⟨b1, b2⟩ := g.same j (by rw [h.len]; exact hj)
    exact ⟨b1.trans a1, b2.trans a2⟩
  · obtain ⟨a1, a2⟩ := h.pops hj hF
    obtain ⟨b1, b2⟩ := g.pops (fun j hj1 => by rw [h.len] at hj1; rw [(h.same j hj1).1]; exact hj j hj1) a1
    exact ⟨b1, by omega⟩
theorem getD_setW (l : List Wk) {T : Nat} (u : Wk) (hT : T < l.length) (j : Nat) : (l.set T u).getD j deadW = if T = j then u else l.getD j deadW := by
  rw [List.getD_eq_getElem?_getD, List.getElem?_set]
  by_cases e : T = j
  · subst e; rw [if_pos rfl, if_pos rfl, if_pos hT]; rfl
  · rw [if_neg e, if_neg e, ← List.getD_eq_getElem?_getD]
theorem went_step {n c c' : Nat} {F F' : List Nat} {l : List Wk} {T : Nat} {u : Wk} (hT : T < l.length) (hd : (l.getD T deadW).done = false) (h : StepI n c c' F F' (l.getD T deadW) u) : Went c F l c' F' (l.set T u) := by
  obtain ⟨a, b, hl, hset, _⟩ := ownL_split hT u
  refine ⟨by rw [List.length_set], fun j hj => ?_, ?_, fun hj hF => ?_⟩
  · rw [getD_setW l u hT]
    by_cases e : T = j
    · subst e; rw [if_pos rfl]; exact ⟨h.job, h.r0⟩
    · rw [if_neg e]; exact ⟨rfl, rfl⟩
  · have e1 : succN l = succN a + 0 + succN b := by
      conv => lhs; rw [hl]
      rw [succN_app, hd]; simp
    rw [hset, succN_app, e1]
    rcases h.cases with ⟨q1, q2, q3, q4⟩ | ⟨q1, q2, q3, q4⟩
    · rw [if_neg (by
        intro e
        simp only [Bool.and_eq_true, decide_eq_true_eq] at e
        have := (q3 e.1).2.1
        omega)]
      omega
    · rw [if_pos (by simp [q2, q3])]
      omega
  · have hmem : ∀ z, z ∈ a ∨ z ∈ b → z ∈ l := fun z hz => by rw [hl]; simp; rcases hz with hz | hz; exact .inl hz; exact .inr (.inr hz)
    rcases h.cases with ⟨q1, q2, q3, q4⟩ | ⟨q1, q2, q3, q4⟩
    · subst q1 q2
      refine ⟨fun w hw hwd hwo => ?_, rfl⟩
      rw [hset] at hw
      rcases List.mem_append.1 hw with hw | hw
      · exact hF w (hmem w (.inl hw)) hwd hwo
      · rcases List.mem_cons.1 hw with rfl | hw
        · exact (q3 hwd).2.2
        · exact hF w (hmem w (.inr hw)) hwd hwo
    · obtain ⟨q5, q6⟩ := q4 (hj T hT)
      refine ⟨fun w hw hwd hwo => ?_, by omega⟩
      rw [hset] at hw
      rcases List.mem_append.1 hw with hw | hw
      · exact absurd (hF w (hmem w (.inl hw)) hwd hwo) q5
      · rcases List.mem_cons.1 hw with rfl | hw
        · omega
        · exact absurd (hF w (hmem w (.inr hw)) hwd hwo) q5
theorem mu_step {n K c c' : Nat} {F F' : List Nat} {l : List Wk} {T : Nat} {u : Wk} (hK : l.length = K) (hpc : ∀ w ∈ l, w.pc = 0 ∨ w.pc = 1 ∨ w.pc = 2) (hT : T < l.length) (hd : (l.getD T deadW).done = false) (h : StepI n c c' F F' (l.getD T deadW) u) : muL K c' (l.set T u) < muL K c l := by
  obtain ⟨a, b, hl, hset, _⟩ := ownL_split hT u
  have hlen : l.length = a.length + (b.length + 1) := by
    conv => lhs; rw [hl]
    simp
  have hmem : ∀ z, z ∈ a ∨ z ∈ b → z ∈ l := fun z hz => by rw [hl]; simp; rcases hz with hz | hz; exact .inl hz; exact .inr (.inr hz)
  have hw : l.getD T deadW ∈ l := by rw [List.getD_eq_getElem?_getD, List.getElem?_eq_getElem hT]; exact List.getElem_mem hT
  have hp := gW_pos (c := c) (hpc _ hw) hd
  have e1 : muL K c l = muL K c a + (gW c (l.getD T deadW) + 4 * K + muL K c b) := by
    conv => lhs; rw [hl]
    rw [muL_app]
    unfold muW
    rw [hd, if_neg (by decide)]
  rw [hset, muL_app, e1]
  rcases h.cases with ⟨q1, q2, q3, q4⟩ | ⟨q1, q2, q3, q4⟩
  · subst q1
    unfold muW
    split <;> omega
  · have m1 := muL_more (K := K) (c := c) (c' := c') (l := a) (fun w hw => hpc w (hmem w (.inl hw)))
    have m2 := muL_more (K := K) (c := c) (c' := c') (l := b) (fun w hw => hpc w (hmem w (.inr hw)))
    unfold muW
    rw [q2, if_pos rfl]
    omega
theorem runA_done' (at0 : Int) (picks : List Int) (f n : Nat) (m : List Int) (l : List Wk) (last : Int) (h : manyP (leftW l) = 0) : runA at0 picks f n m l last = (m, l, 0) := by cases f <;> (unfold runA; rw [if_pos h])
/-- Whatever the picks: all come to their end, and what is kept is kept. -/
theorem run_ok {n : Nat} {E : List Nat} (hn : n ≤ 1000) (picks : List Int) : ∀ (f N : Nat) (m : List Int) (l : List Wk) (last : Int) (c : Nat) (F : List Nat), CrowdI n c m F l E → c + f ≤ 1000000 → muL l.length c l ≤ f →
    ∃ m' l' c' F', runA 0 picks f N m l last = (m', l', 0) ∧ CrowdI n c' m' F' l' E ∧ (∀ w ∈ l', w.done = true) ∧ Went c F l c' F' l' := by
  intro f
  induction f with
  | zero =>
    intro N m l last c F h hc hmu
    have hz : manyP (leftW l) = 0 := by
      apply many_of_done
      intro w hw
      cases hd : w.done with
      | true => rfl
      | false =>
        obtain ⟨j, hj, rfl⟩ := List.getElem_of_mem hw
        obtain ⟨a, b, hl, _, _⟩ := ownL_split hj l[j]
        have e : l.getD j deadW = l[j] := by rw [List.getD_eq_getElem?_getD, List.getElem?_eq_getElem hj]; rfl
        rw [e] at hl
        have hp := gW_pos (c := c) (h.wks _ hw).pcs hd
        have : muL l.length c l = muL l.length c a + (gW c l[j] + 4 * l.length + muL l.length c b) := by
          conv => lhs; arg 3; rw [hl]
          rw [muL_app]
          unfold muW
          rw [hd, if_neg (by decide)]
        omega
    exact ⟨m, l, c, F, runA_done' _ _ _ _ _ _ _ hz, h, done_of_many hz, Went.refl _ _ _⟩
  | succ f ih =>
    intro N m l last c F h hc hmu
    by_cases hz : manyP (leftW l) = 0
    · exact ⟨m, l, c, F, runA_done' _ _ _ _ _ _ _ hz, h, done_of_many hz, Went.refl _ _ _⟩
    · obtain ⟨t1, t2, -⟩ := nextN_ok picks (N : Int) last (show 0 < manyP (leftW l) by omega)
      obtain ⟨T, hT⟩ : ∃ T, nextN picks N (leftW l) last = T := ⟨_, rfl⟩
      rw [hT] at t1 t2
      rw [leftW_len] at t1
      have hd : (l.getD T deadW).done = false := by
        rw [leftW_get l t1] at t2
        cases hx : (l.getD T deadW).done with
        | false => rfl
        | true => rw [hx, if_pos rfl] at t2; omega
      obtain ⟨m1, u, F1, c1, hs, hI, hst⟩ := crowd_step hn (by omega) h t1 hd
      have hmu1 := mu_step rfl (fun w hw => (h.wks w hw).pcs) t1 hd hst
      have hw1 := went_step t1 hd hst
      have hc1 : c1 ≤ c + 1 := by rcases hst.cases with ⟨q, _⟩ | ⟨q, _⟩ <;> omega
      obtain ⟨m2, l2, c2, F2, hr, hI2, hd2, hw2⟩ := ih (N + 1) m1 (l.set T u) (T : Int) c1 F1 hI (by omega) (by rw [List.length_set]; omega)
      refine ⟨m2, l2, c2, F2, ?_, hI2, hd2, hw1.trans hw2⟩
      conv => lhs; unfold runA
      rw [if_neg hz, hT, hs]
      exact hr
end Go.Proofs.Ytocepdhjkhhpfaa
namespace Go.Proofs.Ytocepdhjkhhpfaa
set_option linter.unusedVariables false
set_option linter.unusedSimpArgs false

theorem stk_wd {n c : Nat} {m : List Int} {F : List Nat} (h : Stk n c m F) (hn : n ≤ 1000) (hc : c ≤ 1000000) : ∀ x ∈ m, WdI x := by
  intro x hx
  obtain ⟨j, hj, rfl⟩ := List.getElem_of_mem hx
  have e : m.getD j 0 = m[j] := by rw [List.getD_eq_getElem?_getD, List.getElem?_eq_getElem hj]; rfl
  have ht := topF_bd h.lt
  rw [← e]
  by_cases h0 : j = 0
  · subst h0; rw [h.head]; unfold WdI; omega
  · have := h.links j (by omega); unfold WdI; omega
theorem walk_chain {m : List Int} {n : Nat} (hl : m.length = n + 1) : ∀ (F : List Nat) (f : Nat), F.length ≤ f → ChainF m F → (∀ x ∈ F, x < n) → walkF m f (topF F) = F.map fun (x : Nat) => (x : Int) := by
  intro F
  induction F with
  | nil => intro f _ _ _; cases f <;> simp [walkF, topF]
  | cons x r ih =>
    intro f hf hch hlt
    cases f with
    | zero => simp at hf
    | succ f =>
      have hx := hlt x (by simp)
      unfold walkF
      rw [if_pos ⟨by show (0 : Int) < (x : Int) + 1; omega, by show (x : Int) + 1 < _; omega⟩]
      show ((x : Int) + 1 - 1) :: walkF m f (m.getD ((x : Int) + 1).toNat 0) = _
      rw [show ((x : Int) + 1).toNat = x + 1 by omega, hch.1, ih f (by simpa using hf) hch.2 (fun z hz => hlt z (List.mem_cons_of_mem _ hz))]
      simp
theorem stk_free {n c : Nat} {m : List Int} {F : List Nat} (h : Stk n c m F) (hn : n ≤ 1000) (hF : F.length ≤ n) : freeL m = F.map fun (x : Nat) => (x : Int) := by
  have ht := topF_bd h.lt
  have := h.len
  unfold freeL
  rw [if_pos (by omega), h.head, head_H ht.1 (by omega)]
  exact walk_chain h.len F 1000 (by omega) h.chain h.lt
theorem chain_range (n : Nat) : ∀ k t, t + k = n → ChainF (makeL n) (List.range' t k) := by
  intro k
  induction k with
  | zero => intro t _; trivial
  | succ k ih =>
    intro t h
    refine ⟨?_, ih (t + 1) (by omega)⟩
    cases k with
    | zero => rw [show t + 1 = n by omega]; exact makeL_last n
    | succ k => rw [makeL_get (by omega)]; rfl
theorem stk_new (n : Nat) : Stk n 0 (makeL n) (List.range n) := by
  have hl := makeL_len n
  refine ⟨hl, ?_, fun k hk => ?_, ?_, fun x hx => List.mem_range.1 hx⟩
  · by_cases h : n = 0
    · subst h; rfl
    · rw [makeL_get (by omega)]
      cases n with
      | zero => exact absurd rfl h
      | succ n => rw [List.range_succ_eq_map]; rfl
  · by_cases h : k < n
    · rw [makeL_get h]; omega
    · by_cases h2 : k = n
      · rw [h2, makeL_last]; omega
      · rw [List.getD_eq_getElem?_getD, List.getElem?_eq_none (by omega)]; simp
  · rw [List.range_eq_range']
    exact chain_range n n 0 (by omega)
theorem pop_wkI (n c : Nat) (m : List Int) (F : List Nat) : WkI n c m F popW :=
  ⟨.inl rfl, .inl rfl, ⟨Int.le_refl _, (show (0 : Int) ≤ n by omega)⟩, wdI0, wdI0, ⟨by decide, (show (0 : Int) ≤ n by omega)⟩, fun h => absurd h (by decide), fun h => absurd h (by decide), .inr (.inl rfl)⟩
theorem push_wkI {n c : Nat} {m : List Int} {F : List Nat} {x : Int} (h0 : 0 ≤ x) (h1 : x < n) : WkI n c m F (pushW x) :=
  ⟨.inr rfl, .inl rfl, ⟨h0, (show x ≤ n by omega)⟩, wdI0, wdI0, ⟨(show (-1 : Int) ≤ 0 by decide), (show (0 : Int) ≤ n by omega)⟩, fun _ h => absurd h (by simp [pushW]), fun _ => h1, .inr (.inl rfl)⟩
theorem mu_bd (K c : Nat) {l : List Wk} (h : ∀ w ∈ l, w.pc = 0 ∨ w.pc = 1 ∨ w.pc = 2) : muL K c l ≤ l.length * (5 + 4 * K) := by
  induction l with
  | nil => simp [muL]
  | cons x l ih =>
    have h1 := ih (fun w hw => h w (List.mem_cons_of_mem _ hw))
    have h2 := gW_le c (h x (by simp))
    have e : muL K c (x :: l) = muW K c x + muL K c l := by unfold muL; simp
    have h3 : muW K c x ≤ 5 + 4 * K := by unfold muW; split <;> omega
    rw [e, List.length_cons, Nat.add_mul, Nat.one_mul]
    omega
theorem runW_of {at0 : Int} {picks m : List Int} {l : List Wk} {m' : List Int} {l' : List Wk} (hl : l.length ≤ 64) (h : runA at0 picks 100000 0 m l (-1) = (m', l', 0)) : runW at0 picks m l = (m', l', 0) := by
  unfold runW
  rw [if_neg (by omega), h, if_pos rfl]
/-- a crowd of at most sixteen -/
theorem crowd_run {n c : Nat} {m : List Int} {F : List Nat} {l : List Wk} {E : List Nat} (hn : n ≤ 1000) (hc : c ≤ 1000) (hl : l.length ≤ 16) (h : CrowdI n c m F l E) (picks : List Int) :
    ∃ m' l' c' F', runW 0 picks m l = (m', l', 0) ∧ CrowdI n c' m' F' l' E ∧ (∀ w ∈ l', w.done = true) ∧ Went c F l c' F' l' := by
  have hb := mu_bd l.length c (fun w hw => (h.wks w hw).pcs)
  have hb2 : l.length * (5 + 4 * l.length) ≤ 16 * 69 := Nat.mul_le_mul hl (by omega)
  obtain ⟨m', l', c', F', hr, h1, h2, h3⟩ := run_ok hn picks 100000 0 m l (-1) c F h (by omega) (by omega)
  exact ⟨m', l', c', F', runW_of (by omega) hr, h1, h2, h3⟩
/-- the nodes that were taken, in the workers' order -/
def heldL (l : List Wk) : List Int := (l.filter fun w => decide (0 ≤ w.out)).map (·.out)
theorem held_own {l : List Wk} (hd : ∀ w ∈ l, w.done = true) (hj : ∀ w ∈ l, w.job = 1) : ownL l = (heldL l).map Int.toNat := by
  induction l with
  | nil => rfl
  | cons x l ih =>
    have i := ih (fun w hw => hd w (List.mem_cons_of_mem _ hw)) (fun w hw => hj w (List.mem_cons_of_mem _ hw))
    have h1 := hd x (by simp)
    have h2 := hj x (by simp)
    have e : ownL (x :: l) = ownN x ++ ownL l := by unfold ownL; simp
    rw [e, i]
    unfold heldL ownN
    rw [h2, if_neg (by decide), h1]
    by_cases h0 : 0 ≤ x.out
    · rw [if_pos ⟨rfl, h0⟩]; simp [h0]
    · rw [if_neg (fun q => h0 q.2)]; simp [h0]
theorem held_succ {l : List Wk} (hd : ∀ w ∈ l, w.done = true) : succN l = (heldL l).length := by
  unfold succN heldL
  rw [List.length_map]
  congr 1
  refine List.filter_congr fun w hw => ?_
  rw [hd w hw]
  simp
theorem push_own (H : List Int) (h : ∀ x ∈ H, 0 ≤ x) : ownL (H.map pushW) = H.map Int.toNat := by
  induction H with
  | nil => rfl
  | cons x H ih =>
    have e : ownL ((x :: H).map pushW) = ownN (pushW x) ++ ownL (H.map pushW) := by unfold ownL; simp
    rw [e, ih (fun z hz => h z (List.mem_cons_of_mem _ hz))]
    rfl
theorem push_succ (H : List Int) : succN (H.map pushW) = 0 := by
  unfold succN
  rw [List.length_eq_zero_iff, List.filter_eq_nil_iff]
  intro w hw
  obtain ⟨x, _, rfl⟩ := List.mem_map.1 hw
  simp [pushW]
theorem pop_succ (k : Nat) : succN (List.replicate k popW) = 0 := by
  unfold succN
  rw [List.length_eq_zero_iff, List.filter_eq_nil_iff]
  intro w hw
  rw [List.eq_of_mem_replicate hw]
  simp [popW]
theorem pop_own (k : Nat) : ownL (List.replicate k popW) = [] := by
  induction k with
  | zero => rfl
  | succ k ih => rw [List.replicate_succ]; have e : ownL (popW :: List.replicate k popW) = ownN popW ++ ownL (List.replicate k popW) := by unfold ownL; simp
                 rw [e, ih]; rfl
/-- what FreeCounts asks -/
structure CntK (n L : Nat) (picks a : List Int) (l : List Wk) (b : List Int) (k : List Wk) (c : Nat) (s t : Int) : Prop where
  run1 : runW 0 picks (makeL n) (List.replicate L popW) = (a, l, 0)
  alen : a.length = n + 1
  awd : ∀ x ∈ a, WdI x
  llen : l.length = L
  outs : ∀ w ∈ l, -1 ≤ w.out ∧ w.out ≤ 1000
  took : (heldL l).length = c
  least : c = min L n
  ahead : a.getD 0 0 = (c : Int) * 1048576 + s
  sbd : 0 ≤ s ∧ s ≤ 1000
  run2 : runW 0 picks a ((heldL l).map pushW) = (b, k, 0)
  blen : b.length = n + 1
  bwd : ∀ x ∈ b, WdI x
  klen : k.length = c
  bhead : b.getD 0 0 = (2 * (c : Int)) * 1048576 + t
  tbd : 0 ≤ t ∧ t ≤ 1000
  free : (freeL b).length = n
theorem counts (n L : Nat) (hn : n ≤ 6) (hL : L ≤ 8) (picks : List Int) : ∃ a l b k c s t, CntK n L picks a l b k c s t := by
  have hI : CrowdI n 0 (makeL n) (List.range n) (List.replicate L popW) [] := by
    refine ⟨stk_new n, ?_, fun w hw => ?_⟩
    · unfold AllN; rw [pop_own]; simp
    · rw [List.eq_of_mem_replicate hw]; exact pop_wkI _ _ _ _
  have hgp : ∀ j, j < (List.replicate L popW).length → (List.replicate L popW).getD j deadW = popW := fun j hj => by
    rw [List.getD_eq_getElem?_getD, List.getElem?_eq_getElem hj, Option.getD_some, List.getElem_replicate]
  obtain ⟨a, l, c, F, hr, h1, h2, h3⟩ := crowd_run (by omega) (by omega) (by rw [List.length_replicate]; omega) hI picks
  have hll : l.length = L := by rw [h3.len, List.length_replicate]
  have hj1 : ∀ w ∈ l, w.job = 1 := fun w hw => by
    obtain ⟨j, hj, rfl⟩ := List.getElem_of_mem hw
    have := (h3.same j (by rw [← h3.len]; exact hj)).1
    rw [hgp j (by rw [← h3.len]; exact hj), List.getD_eq_getElem?_getD, List.getElem?_eq_getElem hj] at this
    exact this
  obtain ⟨p1, p2⟩ := h3.pops (fun j hj => by rw [hgp j hj]; rfl) (fun w hw hd _ => by rw [List.eq_of_mem_replicate hw] at hd; cases hd)
  have hsc := h3.cnt
  rw [pop_succ, held_succ h2] at hsc
  rw [List.length_range] at p2
  have hown := held_own h2 hj1
  have hall := h1.all
  unfold AllN at hall
  rw [hown, List.append_nil] at hall
  have hheld : ∀ x ∈ heldL l, 0 ≤ x ∧ x < n := by
    intro x hx
    have hx0 : 0 ≤ x := by
      unfold heldL at hx
      obtain ⟨w, hw, rfl⟩ := List.mem_map.1 hx
      simpa using (List.mem_filter.1 hw).2
    have hm : x.toNat ∈ List.range n := hall.subset (List.mem_append.2 (.inr (List.mem_map.2 ⟨x, hx, rfl⟩)))
    have := List.mem_range.1 hm
    exact ⟨hx0, by omega⟩
  have hhl : (heldL l).length ≤ L := by unfold heldL; rw [List.length_map, ← hll]; exact List.length_filter_le _ _
  have hI2 : CrowdI n c a F ((heldL l).map pushW) [] := by
    refine ⟨h1.stk, ?_, fun w hw => ?_⟩
    · unfold AllN; rw [push_own _ (fun x hx => (hheld x hx).1), List.append_nil]; exact hall
    · obtain ⟨x, hx, rfl⟩ := List.mem_map.1 hw
      exact push_wkI (hheld x hx).1 (hheld x hx).2
  obtain ⟨b, k, c2, F2, hr2, g1, g2, g3⟩ := crowd_run (by omega) (by omega) (by rw [List.length_map]; omega) hI2 picks
  have hkl : k.length = (heldL l).length := by rw [g3.len, List.length_map]
  have hk2 : ∀ w ∈ k, w.job = 2 ∧ 0 ≤ w.r0 := fun w hw => by
    obtain ⟨j, hj, rfl⟩ := List.getElem_of_mem hw
    have hj' : j < ((heldL l).map pushW).length := by rw [← g3.len]; exact hj
    have := g3.same j hj'
    rw [List.getD_eq_getElem?_getD, List.getElem?_eq_getElem hj, List.getD_eq_getElem?_getD, List.getElem?_eq_getElem hj', List.getElem_map] at this
    refine ⟨this.1, ?_⟩
    rw [show k[j].r0 = (pushW ((heldL l)[j]'(by simpa using hj'))).r0 from this.2]
    exact (hheld _ (List.getElem_mem _)).1
  have hs2 : succN k = k.length := by
    unfold succN
    rw [List.filter_eq_self.2]
    intro w hw
    have e := (g1.wks w hw).push (hk2 w hw).1 (g2 w hw)
    rw [g2 w hw, e]
    simp [(hk2 w hw).2]
  have hcnt2 := g3.cnt
  rw [push_succ, hs2, hkl] at hcnt2
  have hown2 : ownL k = [] := by
    unfold ownL
    rw [List.flatMap_eq_nil_iff]
    intro w hw
    unfold ownN
    rw [if_pos (hk2 w hw).1, g2 w hw, if_pos rfl]
  have hall2 := g1.all
  unfold AllN at hall2
  rw [hown2, List.append_nil, List.append_nil] at hall2
  have hF2 : F2.length = n := by rw [hall2.length_eq, List.length_range]
  have ht1 := topF_bd h1.stk.lt
  have ht2 := topF_bd g1.stk.lt
  refine ⟨a, l, b, k, c, topF F, topF F2, hr, h1.stk.len, stk_wd h1.stk (by omega) (by omega), hll, fun w hw => ?_, by omega, ?_, h1.stk.head, ⟨ht1.1, by omega⟩, hr2, g1.stk.len, stk_wd g1.stk (by omega) (by omega), by omega, ?_, ⟨ht2.1, by omega⟩, ?_⟩
  · have := (h1.wks w hw).out
    exact ⟨this.1, by omega⟩
  · by_cases hex : ∃ w ∈ l, w.out = -1
    · obtain ⟨w, hw, ho⟩ := hex
      have hF := p1 w hw (h2 w hw) ho
      rw [hF] at p2
      simp at p2
      omega
    · have hfull : (heldL l).length = l.length := by
        unfold heldL
        rw [List.length_map, List.filter_eq_self.2]
        intro w hw
        have := (h1.wks w hw).out
        have : w.out ≠ -1 := fun e => hex ⟨w, hw, e⟩
        simp only [decide_eq_true_eq]
        omega
      omega
  · rw [g1.stk.head]
    have : (c2 : Int) = 2 * (c : Int) := by omega
    rw [this]
  · rw [stk_free g1.stk (by omega) (by omega), List.length_map, hF2]
end Go.Proofs.Ytocepdhjkhhpfaa
namespace Go.Proofs.Ytocepdhjkhhpfaa
set_option linter.unusedVariables false
set_option linter.unusedSimpArgs false

/-- how many give back -/
def givenN (l : List Wk) : Nat := (l.filter fun w => w.job == 2).length
/-- what is held behind a crowd -/
def keepL (held : List Int) (l : List Wk) : List Int := held.drop (min (givenN l) held.length) ++ (l.filter fun w => w.job == 1 && decide (0 ≤ w.out)).map (·.out)
theorem ownL_snoc (l : List Wk) (x : Wk) : ownL (l ++ [x]) = ownL l ++ ownN x := by unfold ownL; simp
theorem crowd_own (raw held : List Int) (h0 : ∀ x ∈ held, 0 ≤ x) : ∀ i, (crowdTo raw held i).2 ≤ held.length ∧ ownL (crowdTo raw held i).1 = (held.take (crowdTo raw held i).2).map Int.toNat ∧ givenN (crowdTo raw held i).1 = (crowdTo raw held i).2 := by
  intro i
  induction i with
  | zero => exact ⟨Nat.zero_le _, by simp [crowdTo, ownL], rfl⟩
  | succ i ih =>
    obtain ⟨h1, h2, h3⟩ := ih
    unfold crowdTo
    obtain ⟨⟨o, q⟩, hq⟩ : ∃ p, p = crowdTo raw held i := ⟨_, rfl⟩
    rw [← hq] at h1 h2 h3 ⊢
    simp only at h1 h2 h3 ⊢
    split
    · rename_i hc
      have hq2 := hc.2
      refine ⟨by simp only; omega, ?_, ?_⟩
      · simp only
        rw [ownL_snoc, h2, List.take_add_one, List.map_append, List.getElem?_eq_getElem hq2, List.getD_eq_getElem?_getD, List.getElem?_eq_getElem hq2]
        rfl
      · simp only
        unfold givenN at h3 ⊢
        rw [List.filter_append, List.length_append, h3]
        rfl
    · refine ⟨by simp only; omega, ?_, ?_⟩
      · simp only
        rw [ownL_snoc, h2]
        simp [ownN, popW]
      · simp only
        unfold givenN at h3 ⊢
        rw [List.filter_append, List.length_append, h3]
        rfl
theorem crowd_wk {n c : Nat} {m : List Int} {F : List Nat} (raw held : List Int) (h : ∀ x ∈ held, 0 ≤ x ∧ x < n) : ∀ i, ∀ w ∈ (crowdTo raw held i).1, WkI n c m F w ∧ w.done = false := by
  intro i
  induction i with
  | zero => intro w hw; simp [crowdTo] at hw
  | succ i ih =>
    unfold crowdTo
    split
    · rename_i hc
      intro w hw
      rcases List.mem_append.1 hw with hw | hw
      · exact ih w hw
      · obtain rfl : w = pushW (held.getD (crowdTo raw held i).2 0) := by simpa using hw
        have hm : held.getD (crowdTo raw held i).2 0 ∈ held := by rw [List.getD_eq_getElem?_getD, List.getElem?_eq_getElem hc.2]; exact List.getElem_mem hc.2
        exact ⟨push_wkI (h _ hm).1 (h _ hm).2, rfl⟩
    · intro w hw
      rcases List.mem_append.1 hw with hw | hw
      · exact ih w hw
      · obtain rfl : w = popW := by simpa using hw
        exact ⟨pop_wkI _ _ _ _, rfl⟩
theorem own_done {l : List Wk} (hj : ∀ w ∈ l, w.job = 1 ∨ w.job = 2) (hd : ∀ w ∈ l, w.done = true) : ownL l = ((l.filter fun w => w.job == 1 && decide (0 ≤ w.out)).map (·.out)).map Int.toNat := by
  induction l with
  | nil => rfl
  | cons x l ih =>
    have i := ih (fun w hw => hj w (List.mem_cons_of_mem _ hw)) (fun w hw => hd w (List.mem_cons_of_mem _ hw))
    have h1 := hd x (by simp)
    have e : ownL (x :: l) = ownN x ++ ownL l := by unfold ownL; simp
    rw [e, i]
    unfold ownN
    rcases hj x (by simp) with h2 | h2
    · rw [h2, if_neg (by decide), h1]
      by_cases h0 : 0 ≤ x.out
      · rw [if_pos ⟨rfl, h0⟩]; simp [h0, h2]
      · rw [if_neg (fun q => h0 q.2)]; simp [h0]
    · rw [if_pos h2, h1, if_pos rfl]; simp [h2]
/-- what is known between two crowds -/
structure OnceI (n c : Nat) (m : List Int) (F : List Nat) (held : List Int) : Prop where
  stk : Stk n c m F
  pos : ∀ x ∈ held, 0 ≤ x
  all : List.Perm (F ++ held.map Int.toNat) (List.range n)
theorem OnceI.bd {n c : Nat} {m : List Int} {F : List Nat} {held : List Int} (h : OnceI n c m F held) : ∀ x ∈ held, 0 ≤ x ∧ x < n := by
  intro x hx
  have h0 := h.pos x hx
  have := List.mem_range.1 (h.all.subset (List.mem_append.2 (.inr (List.mem_map.2 ⟨x, hx, rfl⟩))))
  omega
theorem OnceI.len {n c : Nat} {m : List Int} {F : List Nat} {held : List Int} (h : OnceI n c m F held) : F.length + held.length = n := by
  have := h.all.length_eq
  rw [List.length_append, List.length_map, List.length_range] at this
  exact this
theorem once_new (n : Nat) : OnceI n 0 (makeL n) (List.range n) [] := ⟨stk_new n, fun x hx => by simp at hx, by simp⟩
/-- one crowd -/
theorem once_step {n c : Nat} {m : List Int} {F : List Nat} {held : List Int} (hn : n ≤ 1000) (hc : c ≤ 1000) (h : OnceI n c m F held) (raw picks : List Int) :
    ∃ m' l' c' F', runW 0 picks m (crowdL raw held) = (m', l', 0) ∧ OnceI n c' m' F' (keepL held l') ∧ c' ≤ c + 8 ∧ l'.length = (crowdL raw held).length ∧ (∀ w ∈ l', w.done = true ∧ (w.job = 1 ∨ w.job = 2) ∧ -1 ≤ w.out ∧ w.out ≤ n) ∧
      (∀ j, j < l'.length → (l'.getD j deadW).job = 2 → (l'.getD j deadW).out = ((crowdL raw held).getD j deadW).r0) ∧ givenN l' ≤ held.length := by
  have hi := crowd_own raw held h.pos (min raw.length 8)
  have hw := fun w hw => crowd_wk (c := c) (m := m) (F := F) raw held h.bd (min raw.length 8) w hw
  have hll := crowdTo_len raw held (min raw.length 8)
  unfold crowdL
  obtain ⟨⟨l, q⟩, hp⟩ : ∃ p, p = crowdTo raw held (min raw.length 8) := ⟨_, rfl⟩
  rw [← hp] at hi hw hll ⊢
  simp only at hi hw hll ⊢
  obtain ⟨q1, q2, q3⟩ := hi
  have hI : CrowdI n c m F l ((held.drop q).map Int.toNat) := by
    refine ⟨h.stk, ?_, fun w hww => (hw w hww).1⟩
    unfold AllN
    rw [q2, ← List.map_append, List.take_append_drop]
    exact h.all
  obtain ⟨m', l', c', F', hr, h1, h2, h3⟩ := crowd_run hn hc (by omega) hI picks
  have hjl : ∀ w ∈ l', w.job = 1 ∨ w.job = 2 := fun w hww => (h1.wks w hww).job
  have hown := own_done hjl h2
  have hgiv : givenN l' = q := by
    rw [← q3]
    unfold givenN
    have e : ∀ (l1 l2 : List Wk), l1.length = l2.length → (∀ j, j < l2.length → (l1.getD j deadW).job = (l2.getD j deadW).job) → (l1.filter fun w => w.job == 2).length = (l2.filter fun w => w.job == 2).length := by
      intro l1
      induction l1 with
      | nil => intro l2 hl _; cases l2 with
        | nil => rfl
        | cons x l2 => simp at hl
      | cons x l1 ih =>
        intro l2 hl hj
        cases l2 with
        | nil => simp at hl
        | cons y l2 =>
          have h0 := hj 0 (by simp)
          simp only [List.getD_cons_zero] at h0
          have i := ih l2 (by simpa using hl) (fun j hjl => by have := hj (j + 1) (by simpa using hjl); simpa using this)
          rw [List.filter_cons, List.filter_cons, h0]
          split <;> simp [i]
    exact e l' l h3.len (fun j hj => (h3.same j hj).1)
  have hs0 : succN l = 0 := by
    unfold succN
    rw [List.length_eq_zero_iff, List.filter_eq_nil_iff]
    intro w hww
    simp [(hw w hww).2]
  have hsl : succN l' ≤ l'.length := by unfold succN; exact List.length_filter_le _ _
  have hcnt := h3.cnt
  have hlen := h3.len
  refine ⟨m', l', c', F', hr, ⟨h1.stk, fun x hx => ?_, ?_⟩, by omega, h3.len, fun w hww => ⟨h2 w hww, hjl w hww, (h1.wks w hww).out⟩, fun j hj hj2 => ?_, by omega⟩
  · unfold keepL at hx
    rcases List.mem_append.1 hx with hx | hx
    · exact h.pos x (List.mem_of_mem_drop hx)
    · obtain ⟨w, hww, rfl⟩ := List.mem_map.1 hx
      have := (List.mem_filter.1 hww).2
      simp only [Bool.and_eq_true, decide_eq_true_eq] at this
      exact this.2
  · have hall := h1.all
    unfold AllN at hall
    rw [hown] at hall
    unfold keepL
    rw [hgiv, Nat.min_eq_left q1, List.map_append]
    refine List.Perm.trans ?_ hall
    exact List.Perm.append_left _ List.perm_append_comm
  · have hm : l'.getD j deadW ∈ l' := by rw [List.getD_eq_getElem?_getD, List.getElem?_eq_getElem hj]; exact List.getElem_mem hj
    rw [(h1.wks _ hm).push hj2 (h2 _ hm)]
    exact (h3.same j (by omega)).2
end Go.Proofs.Ytocepdhjkhhpfaa
namespace Go.Proofs.Ytocepdhjkhhpfaa
open Go.RowKit Go.Sort

theorem code_hi (s : ByteArray) (pos : Nat) (h : pos < s.size) (hb : 128 ≤ (s[pos]'h).toNat) : 128 ≤ (Utf8.decode s pos).1 := (decode_high s pos h hb).1

/-- byte k of a string, as a number -/
def byt (s : ByteArray) (k : Nat) : Nat := (s.data.toList.getD k 0).toNat
theorem byt_at (s : ByteArray) (k : Nat) (h : k < s.size) : (s[k]'h).toNat = byt s k := by
  unfold byt
  rw [List.getD_eq_getElem?_getD, List.getElem?_eq_getElem (by simpa using h)]
  rfl
theorem size_list (s : ByteArray) : s.size = s.data.toList.length := Array.length_toList.symm
theorem list_none {s : ByteArray} (h : s.size = 0) : s.toList = [] := by rw [ByteArray.toList_eq]; exact List.eq_nil_of_length_eq_zero (by rw [← size_list]; exact h)
theorem list_some {s : ByteArray} (h : 0 < s.size) : ¬ s.toList = [] := by rw [ByteArray.toList_eq]; intro e; have := size_list s; rw [e] at this; simp only [List.length_nil] at this; omega
theorem digs_to {s : ByteArray} {k : Nat} (h : k < s.size) (hk : ∀ j, j < k → 48 ≤ byt s j ∧ byt s j ≤ 57) (hd : 48 ≤ byt s k ∧ byt s k ≤ 57) : ∀ j, j < k + 1 → 48 ≤ byt s j ∧ byt s j ≤ 57 := by
  intro j hj
  by_cases e : j = k
  · subst e; exact hd
  · exact hk j (by omega)
theorem val_to {s : ByteArray} {k : Nat} (h : k < s.size) : val (s.data.toList.take (k + 1)) = 10 * val (s.data.toList.take k) + (byt s k - 48) := by
  rw [List.take_succ_eq_append_getElem (by simpa using h), val_snoc]
  unfold byt dv
  rw [List.getD_eq_getElem?_getD, List.getElem?_eq_getElem (by simpa using h)]
  rfl
theorem val_more {s : ByteArray} {k : Nat} (h : 4611686018427387903 < val (s.data.toList.take k)) : 4611686018427387903 < val s.data.toList := Nat.lt_of_lt_of_le h (val_mono k)

theorem parse_off {s : ByteArray} {k : Nat} (h : k < s.size) (hb : byt s k < 48 ∨ 57 < byt s k) : parseL s.data.toList = (0, 20) := by
  unfold parseL
  rw [if_pos]
  cases hbad : badL s.data.toList with
  | true => rfl
  | false =>
    have hm : s.data.toList.getD k 0 ∈ s.data.toList := by
      rw [List.getD_eq_getElem?_getD, List.getElem?_eq_getElem (by simpa using h)]
      exact List.getElem_mem _
    have := (digB_iff _).1 (((badL_iff _).1 hbad).2.2 _ hm)
    unfold byt at hb
    omega
theorem parse_none {s : ByteArray} (h : s.size = 0) : parseL s.data.toList = (0, 20) := by
  have : s.data.toList = [] := List.eq_nil_of_length_eq_zero (by rw [← size_list]; exact h)
  rw [this]
  rfl
theorem parse_zero {s : ByteArray} (h : 1 < s.size) (h0 : byt s 0 = 48) : parseL s.data.toList = (0, 20) := by
  unfold parseL
  rw [if_pos]
  unfold badL zeroB
  have e : s.data.toList.getD 0 0 = 48 := UInt8.toNat_inj.1 h0
  rw [e, decide_eq_true (by rw [← size_list]; exact h)]
  simp
theorem parse_all {s : ByteArray} (hp : 0 < s.size) (hz : ¬ (1 < s.size ∧ byt s 0 = 48)) (hk : ∀ j, j < s.size → 48 ≤ byt s j ∧ byt s j ≤ 57) : badL s.data.toList = false := by
  refine (badL_iff _).2 ⟨fun e => ?_, ?_, fun c hc => ?_⟩
  · have := size_list s; rw [e] at this; simp only [List.length_nil] at this; omega
  · unfold zeroB
    rw [Bool.and_eq_false_iff]
    rw [size_list] at hz
    by_cases h1 : 1 < s.data.toList.length
    · right
      rw [beq_eq_false_iff_ne]
      intro e
      exact hz ⟨h1, by unfold byt; rw [e]; rfl⟩
    · left; exact decide_eq_false h1
  · obtain ⟨j, hj, rfl⟩ := List.getElem_of_mem hc
    have := hk j (by rw [size_list]; exact hj)
    unfold byt at this
    rw [List.getD_eq_getElem?_getD, List.getElem?_eq_getElem hj] at this
    exact (digB_iff _).2 this
theorem parse_big {l : List UInt8} (hb : badL l = false) (hv : 4611686018427387903 < val l) : parseL l = (0, 21) := by
  unfold parseL; rw [hb, if_neg (by decide), if_pos hv]
theorem parse_ok {l : List UInt8} (hb : badL l = false) (hv : ¬ 4611686018427387903 < val l) : parseL l = ((val l : Int), 0) := by
  unfold parseL; rw [hb, if_neg (by decide), if_neg hv]

def ParseR (p : Int × Int) (w : World) (e : Ending) (w' : World) : Prop := e = .returned (.tuple #[.int .i64 p.1, .int .i64 p.2]) ∧ Below w.heap.size w w'

/-- What is known of the number at byte k: it is the value of the bytes ahead, or these are too great. -/
def At (s : ByteArray) (k n : Nat) (big : Bool) : Prop := (∀ j, j < k → 48 ≤ byt s j ∧ byt s j ≤ 57) ∧ (big = false → n = val (s.data.toList.take k)) ∧ (big = true → 4611686018427387903 < val (s.data.toList.take k))

end Go.Proofs.Ytocepdhjkhhpfaa
namespace Go.Proofs.Ytocepdhjkhhpfaa
open Go.RowKit Go.Sort

theorem now_one (w : World) (T : Nat) (x : Int) : Now (w.alloc (.cells #[.int .i64 x] T)) (some ⟨w.heap.size, 0, none⟩) [x] := fun j hj => by
  have hj1 : j = 0 := by simp at hj; omega
  subst hj1
  exact ⟨w.heap.size, 0, rfl, by simp, by simp⟩
theorem now_two (w : World) (T : Nat) (x y : Int) : Now (w.alloc (.cells #[.int .i64 x, .int .i64 y] T)) (some ⟨w.heap.size, 0, none⟩) [x, y] := fun j hj => by
  have hj2 : j < 2 := hj
  refine ⟨w.heap.size, 0, rfl, by simp, ?_⟩
  match j, hj2 with
  | 0, _ => simp
  | 1, _ => simp

theorem txt_120 : txt 120 = ⟨#[49, 50, 48]⟩ := by
  unfold txt txtL
  rw [if_pos (by omega), show (120 : Int).toNat = 120 from rfl, dec_big (by omega), dec_big (by omega), dec_small (by omega)]
  rfl
theorem txt_neg : txt (-1) = ⟨#[]⟩ := by unfold txt txtL; rw [if_neg (by omega)]
theorem i64_small {x : Int} (h : -1000 ≤ x ∧ x ≤ 1000) : I64 x := by unfold I64; omega

end Go.Proofs.Ytocepdhjkhhpfaa
namespace Go.Proofs.Ytocepdhjkhhpfaa
open Go.RowKit Go.Sort

theorem now_three (w : World) (T : Nat) (x y z : Int) : Now (w.alloc (.cells #[.int .i64 x, .int .i64 y, .int .i64 z] T)) (some ⟨w.heap.size, 0, none⟩) [x, y, z] := fun j hj => by
  have hj2 : j < 3 := hj
  refine ⟨w.heap.size, 0, rfl, by simp, ?_⟩
  match j, hj2 with
  | 0, _ => simp
  | 1, _ => simp
  | 2, _ => simp
theorem txt_data {u : Nat} (h : u ≤ 4611686018427387903) : (txt (u : Int)).data.toList = Lib.decDigits u := by
  unfold txt
  rw [txtL_nat h]
theorem txt_small_size (n : Int) : (txt n).size ≤ maxLen := by
  have := txtL_len n
  have h : (txt n).size ≤ 19 := by
    show (txtL n).toArray.size ≤ 19
    simpa using this
  unfold maxLen
  omega
theorem parse_txt {u : Nat} (h : u ≤ 4611686018427387903) : parseL (txt (u : Int)).data.toList = ((u : Int), 0) := by rw [txt_data h, parse_dec h]
theorem rises_at {l : List Int} (h : l.Pairwise (· < ·)) {j : Nat} (hj : j + 1 < l.length) : l.getD j 0 < l.getD (j + 1) 0 := by
  rw [List.getD_eq_getElem?_getD, List.getD_eq_getElem?_getD, List.getElem?_eq_getElem hj, List.getElem?_eq_getElem (show j < l.length by omega)]
  exact List.pairwise_iff_getElem.1 h j (j + 1) (by omega) hj (by omega)
theorem getD_mem {l : List Int} {j : Nat} (hj : j < l.length) : l.getD j 0 ∈ l := by
  rw [List.getD_eq_getElem?_getD, List.getElem?_eq_getElem hj]
  exact List.getElem_mem _

end Go.Proofs.Ytocepdhjkhhpfaa
