/-
  PickAll: each order of turns that there can be is told by some picks.
-/
import Derived.Test.YtffknldagconmaaB04
namespace Go.Proofs.Ytffknldagconmaa
set_option maxRecDepth 100000
set_option linter.unusedVariables false
set_option linter.unusedSimpArgs false
open Go.RowKit Go.Sort

/-- how often p is told of the first k -/
def occP (t : Nat → Nat) (p : Nat) : Nat → Nat
  | 0 => 0
  | k + 1 => occP t p k + if t k = p then 1 else 0
theorem occP_mono (t : Nat → Nat) (p : Nat) {i k : Nat} (h : i ≤ k) : occP t p i ≤ occP t p k := by
  induction k with
  | zero => obtain rfl : i = 0 := by omega
            exact Nat.le_refl _
  | succ k ih =>
    by_cases hi : i = k + 1
    · subst hi; exact Nat.le_refl _
    · have := ih (by omega)
      rw [show occP t p (k + 1) = occP t p k + (if t k = p then 1 else 0) from rfl]
      omega
theorem occP_le (t : Nat → Nat) (p : Nat) : ∀ k, occP t p k ≤ k := by
  intro k
  induction k with
  | zero => exact Nat.le_refl _
  | succ k ih => unfold occP; split <;> omega
def leftF (t : Nat → Nat) (k : Nat) : List Int := rowF 6 fun p => (occP t p k : Int)
def nowF (t : Nat → Nat) (n i : Nat) : List Int := rowF 6 fun p => (occP t p n : Int) - (occP t p i : Int)
def turnF (t : Nat → Nat) (k : Nat) : List Int := (List.range k).map fun i => (t i : Int)
def pickF (t : Nat → Nat) (n k : Nat) : List Int := (List.range k).map fun i => (cntP (nowF t n i) (t i) : Int)
theorem leftF_len (t : Nat → Nat) (k : Nat) : (leftF t k).length = 6 := rowF_len _ _
theorem nowF_len (t : Nat → Nat) (n k : Nat) : (nowF t n k).length = 6 := rowF_len _ _
theorem turnF_len (t : Nat → Nat) (k : Nat) : (turnF t k).length = k := by unfold turnF; simp
theorem pickF_len (t : Nat → Nat) (n k : Nat) : (pickF t n k).length = k := by unfold pickF; simp
theorem turnF_get (t : Nat → Nat) {i k : Nat} (h : i < k) : (turnF t k).getD i 0 = (t i : Int) := by
  unfold turnF
  rw [List.getD_eq_getElem?_getD, List.getElem?_map, List.getElem?_range h]
  rfl
theorem pickF_get (t : Nat → Nat) (n : Nat) {i k : Nat} (h : i < k) : (pickF t n k).getD i 0 = (cntP (nowF t n i) (t i) : Int) := by
  unfold pickF
  rw [List.getD_eq_getElem?_getD, List.getElem?_map, List.getElem?_range h]
  rfl
theorem turnF_succ (t : Nat → Nat) (k : Nat) : turnF t (k + 1) = turnF t k ++ [(t k : Int)] := by unfold turnF; rw [List.range_succ, List.map_append]; rfl
theorem pickF_succ (t : Nat → Nat) (n k : Nat) : pickF t n (k + 1) = pickF t n k ++ [(cntP (nowF t n k) (t k) : Int)] := by unfold pickF; rw [List.range_succ, List.map_append]; rfl
theorem leftF_zero (t : Nat → Nat) : leftF t 0 = List.replicate 6 0 := rfl
theorem leftF_succ (t : Nat → Nat) (k : Nat) : (leftF t k).set (t k) ((occP t (t k) k : Int) + 1) = leftF t (k + 1) := by
  unfold leftF
  rw [rowF_set]
  refine rowF_congr fun p hp => ?_
  have hs : occP t p (k + 1) = occP t p k + if t k = p then 1 else 0 := rfl
  rw [hs]
  by_cases e : p = t k
  · subst e
    rw [if_pos rfl, if_pos rfl]
    omega
  · rw [if_neg e, if_neg (fun h => e h.symm), Nat.add_zero]
theorem nowF_get (t : Nat → Nat) (n i : Nat) {p : Nat} (h : p < 6) : (nowF t n i).getD p 0 = (occP t p n : Int) - (occP t p i : Int) := rowF_get _ h
theorem nowF_zero (t : Nat → Nat) (n : Nat) : nowF t n 0 = leftF t n := by
  unfold nowF leftF
  refine rowF_congr fun p hp => ?_
  show _ - ((0 : Nat) : Int) = _
  omega
theorem nowF_succ (t : Nat → Nat) (n i : Nat) (ht : t i < 6) : (nowF t n i).set (t i) ((nowF t n i).getD (t i) 0 - 1) = nowF t n (i + 1) := by
  rw [nowF_get t n i ht]
  unfold nowF
  rw [rowF_set]
  refine rowF_congr fun p hp => ?_
  have hs : occP t p (i + 1) = occP t p i + if t i = p then 1 else 0 := rfl
  rw [hs]
  by_cases e : p = t i
  · subst e
    rw [if_pos rfl, if_pos rfl]
    omega
  · rw [if_neg e, if_neg (fun h => e h.symm), Nat.add_zero]
theorem nowF_live (t : Nat → Nat) {n i : Nat} (h : i < n) (ht : t i < 6) : 0 < (nowF t n i).getD (t i) 0 := by
  rw [nowF_get t n i ht]
  have h1 := occP_mono t (t i) (show i + 1 ≤ n from h)
  have h2 : occP t (t i) (i + 1) = occP t (t i) i + 1 := by show _ + (if t i = t i then 1 else 0) = _; rw [if_pos rfl]
  omega
theorem nowF_bd (t : Nat → Nat) {n i : Nat} (h : i ≤ n) (k : Nat) : 0 ≤ (nowF t n i).getD k 0 ∧ (nowF t n i).getD k 0 ≤ n := by
  by_cases hk : k < 6
  · rw [nowF_get t n i hk]
    have h1 := occP_mono t k h
    have h2 := occP_le t k n
    omega
  · rw [getD_past _ (by rw [nowF_len]; omega)]; omega
theorem nowF_tot (t : Nat → Nat) (n : Nat) (ht : ∀ i, t i < 6) : ∀ d i, i + d = n → totP (nowF t n i) = d := by
  intro d
  induction d with
  | zero =>
    intro i hi
    obtain rfl : i = n := by omega
    have h1 := totP_le 0 (nowF t i i) fun k => by
      by_cases hk : k < 6
      · rw [nowF_get t i i hk]; omega
      · rw [getD_past _ (by rw [nowF_len]; omega)]; omega
    omega
  | succ d ih =>
    intro i hi
    have h1 := totP_set _ _ (nowF_live t (show i < n by omega) (ht i))
    rw [nowF_succ t n i (ht i), ih (i + 1) (by omega)] at h1
    omega
theorem all_turns (t : Nat → Nat) (n : Nat) (ht : ∀ i, t i < 6) : ∀ i, i ≤ n → (stP (pickF t n n) (leftF t n) i).1 = nowF t n i ∧ ∀ j, j < i → tnP (pickF t n n) (leftF t n) j = t j := by
  intro i
  induction i with
  | zero => intro _; exact ⟨(nowF_zero t n).symm, fun j hj => absurd hj (Nat.not_lt_zero j)⟩
  | succ i ih =>
    intro h
    obtain ⟨h1, h2⟩ := ih (by omega)
    have hlv := nowF_live t (show i < n by omega) (ht i)
    have htn : tnP (pickF t n n) (leftF t n) i = t i := by
      unfold tnP nextN
      rw [h1]
      have hm := live_many hlv
      have hr : rankP (pickF t n n) (i : Int) (manyP (nowF t n i)) (uptoP (nowF t n i) (stP (pickF t n n) (leftF t n) i).2) = cntP (nowF t n i) (t i) := by
        rw [rankP_yes (by rw [pickF_len]; omega), pickF_get t n (by omega)]
        unfold pickI
        rw [if_neg (by omega)]
        rw [Int.emod_eq_of_lt (by omega) (by omega)]
        omega
      rw [hr]
      exact kth_eq hlv rfl
    refine ⟨?_, fun j hj => ?_⟩
    · rw [stP_succ, htn, h1]
      exact nowF_succ t n i (ht i)
    · by_cases hji : j = i
      · subst hji; exact htn
      · exact h2 j (by omega)
theorem all_tot (t : Nat → Nat) (n : Nat) (ht : ∀ i, t i < 6) : totP (leftF t n) = n := by
  rw [← nowF_zero]
  exact nowF_tot t n ht n 0 (by omega)
theorem all_told (t : Nat → Nat) (n : Nat) (ht : ∀ i, t i < 6) : turnsP (pickF t n n) (leftF t n) = turnF t n := by
  unfold turnsP turnF
  rw [all_tot t n ht]
  refine List.map_congr_left fun j hj => ?_
  rw [(all_turns t n ht n (Nat.le_refl _)).2 j (List.mem_range.1 hj)]
/-- which of six a raw number speaks of -/
def rawT (raw : List Int) (i : Nat) : Nat := (pickI (raw.getD i 0) 6).toNat
theorem rawT_lt (raw : List Int) (i : Nat) : rawT raw i < 6 := by
  have := pickI_bd (raw.getD i 0) 6 (by decide)
  unfold rawT
  omega
theorem rawT_eq (raw : List Int) (i : Nat) : pickI (raw.getD i 0) 6 = (rawT raw i : Int) := by
  have := pickI_bd (raw.getD i 0) 6 (by decide)
  unfold rawT
  omega
set_option maxHeartbeats 16000000 in
theorem pickAll_law (B : Option Addr) (raw : List Int) (d : Nat) (w : World) (hR : InL w B raw d) :
    Calls Try.prog 6 #[.slice B raw.length d] w fun e w' => e = .returned (.bool true) ∧ Below w.heap.size w w' := by
  have HR := Lib.hid hR
  have HT := Lib.hid (rawT_lt raw)
  have HTE := Lib.hid (rawT_eq raw)
  clear hR
  go_enter Try.func6, Try.ntmps6
  go_wp2_with fail
  refine (awake11_any w).mono ?_
  rintro r w1 ⟨rfl, hb1⟩
  have HB1 := Lib.hid hb1
  clear hb1
  generalize rawT raw = t at *
  obtain ⟨w2, hmk, hof, hg⟩ := makeW 6 (by decide) w1
  rw [← leftF_zero t] at hof
  have hb2 : Below w1.heap.size w1 w2 := ⟨hg.os, hg.tape, hg.output, hg.size, fun k hk => hg.block k hk (by simp)⟩
  obtain ⟨D, hD⟩ : ∃ D, D = w1.heap.size := ⟨_, rfl⟩
  have hDq : w.heap.size ≤ D := by rw [hD]; exact HB1.out.size
  rw [← hD] at hmk hof
  rw [show ((6 : Nat) : Int) = 6 from rfl] at hmk
  have hDl := (own_bounds hof _ rfl).2
  simp only at hDl
  have HO := Lib.hid (And.intro hof (Qt.more HB1.out HB1.out.size hb2))
  clear hof hg hb2 hD HB1
  go_wp2_with fail
  clear hmk
  go_loopw [4, 6] (fun o i wr => ∃ k : Nat, k ≤ raw.length ∧ k ≤ 60 ∧ i = .int .i64 k ∧ Hid (Own wr w2.heap.size o (turnF t k) ∧ Own wr D (.slice (some ⟨D, 0, none⟩) 6 6) (leftF t k) ∧ Below w.heap.size w wr ∧ w2.heap.size ≤ wr.heap.size)) (fun _ i _ => 60 - (intOf i).toNat)
  case atStart => exact ⟨0, Nat.zero_le _, by omega, rfl, (show Hid _ from ⟨World.ownsRow_nil _ _ _ _, HO.out.1, HO.out.2, Nat.le_refl _⟩)⟩
  case round =>
    obtain ⟨k, hk, hk60, rfl, HH⟩ := hrel
    obtain ⟨h1, h2, h3, h4⟩ := HH.out
    obtain ⟨AO, cO, hv, hcO, hNO⟩ := h1.reads
    rw [turnF_len] at hv hcO
    subst hv
    by_cases hlt : k < raw.length ∧ k < 60
    · obtain ⟨hlt1, hlt2⟩ := hlt
      have hltz : (k : Int) < (raw.length : Int) := by omega
      obtain ⟨b, off, rfl, hbB, hcell⟩ := Rd.at_ HR.out.now (by omega)
      have y0 := (h3.cell (p := ⟨b, off + k, none⟩) hbB).trans (hcell k hlt1)
      have i0 := HR.out.fit k hlt1
      have hte := HTE.out k
      have htl := HT.out k
      obtain ⟨x, hx⟩ : ∃ x, x = raw.getD k 0 := ⟨_, rfl⟩
      rw [← hx] at y0 i0 hte
      have hp := fun W => which11_any x 6 W i0 (by decide) (by decide)
      rw [hte] at hp
      have hpl : (turnF t k).length = k := turnF_len t k
      obtain ⟨v', w', hrun, hown, hb2⟩ := push_any (t k : Int) h4 h1 (by omega)
      rw [← turnF_succ] at hown
      have h2' := own_keeps h2 fun g hg => hb2.block g (by simp [Value.ownBlock] at hg; omega)
      obtain ⟨f1, f2⟩ := own_at h2' (leftF_len t k).symm (by rw [leftF_len]; omega)
      have y2 := f2 (t k) (by rw [leftF_len]; exact htl)
      have hget : (leftF t k).getD (t k) 0 = (occP t (t k) k : Int) := rowF_get _ htl
      rw [hget] at y2
      have yf := f1 (t k)
      have hob := occP_le t (t k) k
      have hput := own_put h2' (leftF_len t k).symm (t k) ((occP t (t k) k : Int) + 1)
      rw [leftF_succ] at hput
      have hyr := ((h3.trans (hb2.mono (by omega))).cell (p := ⟨b, off + k, none⟩) hbB).trans (hcell k hlt1)
      rw [← hx] at hyr
      have HFN : Hid (Own (w'.setCell ⟨D, t k, none⟩ (.int .i64 ((occP t (t k) k : Int) + 1))) w2.heap.size v' (turnF t (k + 1)) ∧ Own (w'.setCell ⟨D, t k, none⟩ (.int .i64 ((occP t (t k) k : Int) + 1))) D (.slice (some ⟨D, 0, none⟩) 6 6) (leftF t (k + 1)) ∧ Below w.heap.size w (w'.setCell ⟨D, t k, none⟩ (.int .i64 ((occP t (t k) k : Int) + 1))) ∧ w2.heap.size ≤ (w'.setCell ⟨D, t k, none⟩ (.int .i64 ((occP t (t k) k : Int) + 1))).heap.size) := by
        refine ⟨own_keeps hown fun g hg => heap_other ?_, hput, (h3.trans (hb2.mono (by omega))).setCell (p := ⟨D, t k, none⟩) hDq _, ?_⟩
        · have := (World.ownsRow.lt hown g hg).1; omega
        · have := hb2.size; simp; omega
      have HRun := Lib.hid hrun
      generalize occP t (t k) k = H1 at *
      generalize t k = T at *
      have hTz : (T : Int) < 6 := by omega
      clear hcell hx hrun hown hb2 h1 h2 h3 h4 h2' f1 f2 hput hget i0 hte hpl HH hNO
      go_wp2_with fail
      refine (hp _).mono ?_
      rintro r w3 ⟨rfl, rfl⟩
      clear y0
      go_wp2_with (at_builtin; refine Lib.wpList_append_run _ rfl (.tmp 24) (.tmp 30) 22 22 rfl _ _ rfl rfl _ _ HRun.out ?_)
      refine (hp _).mono ?_
      rintro r w4 ⟨rfl, hw4⟩
      subst hw4
      clear hp
      go_wp2_with fail
      go_roundw
      case measure => simp [intOf]; omega
      case rel => exact ⟨k + 1, by omega, by omega, by go_num, HFN.out⟩
    · have HN := Lib.hid (And.intro h1 (And.intro h2 (And.intro h3 h4)))
      have HNO := Lib.hid hNO
      have hex : ((k : Int) < (raw.length : Int) ∧ ¬ (k : Int) < 60) ∨ (¬ (k : Int) < (raw.length : Int)) := by omega
      clear h1 h2 h3 h4 HH hNO hlt
      have hlO := leftF_len t k
      have hA10 : Now wr (some ⟨D, 0, none⟩) (leftF t k) := own_now HN.out.2.1 hlO.symm
      obtain ⟨vN, w4, hrun4, hown4, hgr4⟩ := appW_any (out := []) 6 (Nat.le_refl _) (World.ownsRow_nil wr wr.heap.size 3 1) hA10 (by simp; omega)
      rw [List.nil_append, ← nowF_zero] at hown4
      rw [hlO] at hrun4
      obtain ⟨AN, cN, rfl, hcN, _⟩ := own_slice hown4
      rw [nowF_len] at hrun4 hcN
      have hown4' : Own w4 wr.heap.size (.slice AN 6 cN) (nowF t k 0) := by have := hown4; rw [nowF_len] at this; exact this
      have hb4 : Below wr.heap.size wr w4 := (Below.refl _ _).grown hgr4 (Nat.le_refl _) (fun k e => by simp [Value.ownBlock] at e)
      have HO4 := Lib.hid (And.intro hown4' hb4)
      have HANB := Lib.hid (own_bounds hown4')
      have HRun4 := Lib.hid hrun4
      clear hlO hA10 hrun4 hown4 hown4' hgr4 hb4
      obtain ⟨wo, rfl⟩ : ∃ wo : World, wo = wr := ⟨_, rfl⟩
      rcases hex with ⟨hz, h60⟩ | hz
      all_goals
        go_wp2_with (at_builtin; refine Lib.wpList_append_run _ rfl (.const (.slice none 0 0)) (.tmp 42) 22 22 rfl _ _ rfl rfl _ _ HRun4.out ?_)
        clear HRun4
        go_loopw [7, 9] (fun p i wr => ∃ m : Nat, m ≤ k ∧ i = .int .i64 m ∧ Hid (Own wr w4.heap.size p (pickF t k m) ∧ Own wr wo.heap.size (.slice AN 6 cN) (nowF t k m) ∧ Below wo.heap.size wo wr ∧ w4.heap.size ≤ wr.heap.size)) (fun _ i _ => k - (intOf i).toNat)
        case atStart => exact ⟨0, Nat.zero_le _, rfl, (show Hid _ from ⟨World.ownsRow_nil _ _ _ _, HO4.out.1, HO4.out.2, Nat.le_refl _⟩)⟩
        case round =>
          obtain ⟨m, hm, rfl, HH⟩ := hrel
          obtain ⟨h1, h2, h3, h4⟩ := HH.out
          by_cases hmk : m < k
          · have hmz : (m : Int) < (k : Int) := by omega
            have htl := HT.out m
            have hgt := turnF_get t hmk
            obtain ⟨b, off, rfl, hbB, hcell⟩ := Rd.at_ HNO.out (by rw [turnF_len]; omega)
            have y1 := (h3.cell (p := ⟨b, off + m, none⟩) hbB).trans (hcell m (by rw [turnF_len]; exact hmk))
            rw [hgt] at y1
            have HH2 := HH
            have hnl := nowF_len t k m
            have HY1 := Lib.hid (fun (W : World) (hb : Below wo.heap.size wo W) => (hb.cell (p := ⟨b, off + m, none⟩) hbB).trans ((hcell m (by rw [turnF_len]; exact hmk)).trans (by rw [hgt])))
            have HB := Lib.hid hbB
            have hsucc := nowF_succ t k m htl
            have hlive := nowF_live t hmk htl
            have hbd := nowF_bd t (show m ≤ k by omega)
            have hpk := pickF_succ t k m
            obtain ⟨T, hT⟩ : ∃ T, T = t m := ⟨_, rfl⟩
            rw [← hT] at htl y1 hsucc hlive hpk HY1
            clear hcell hgt hT h1 h2 h3 h4 HH hbB
            obtain ⟨l2, hl2⟩ : ∃ l2, l2 = nowF t k m := ⟨_, rfl⟩
            have HHe := HH2.out
            rw [← hl2] at hnl hsucc hlive hbd hpk HHe
            have HS := Lib.hid hsucc
            have HLV := Lib.hid hlive
            have HBD := Lib.hid hbd
            have HPK := Lib.hid hpk
            have HE := Lib.hid HHe
            have HNL := Lib.hid hnl
            clear hl2 hsucc hlive hbd hpk HHe HH2 hnl
            go_wp2_with fail
            obtain ⟨wu, rfl⟩ : ∃ wu : World, wu = wr := ⟨_, rfl⟩
            go_loopw [10, 11] (fun n p wr => ∃ j : Nat, j ≤ T ∧ p = .int .i64 j ∧ n = .int .i64 (cntP l2 j : Int) ∧ wr = wu) (fun _ p _ => T - (intOf p).toNat)
            case atStart => exact ⟨0, Nat.zero_le _, rfl, rfl, rfl⟩
            case round =>
              obtain ⟨j, hj, rfl, rfl, hwr3⟩ := hrel
              subst hwr3
              have hcl := cntP_le l2 j
              have hnl := HNL.out
              obtain ⟨g1, g2⟩ := (show (∀ i, wr.frozen? ⟨(AN.getD ⟨0, 0, none⟩).block, i, none⟩ = false) ∧ ∀ i, i < 6 → wr.cell? ⟨(AN.getD ⟨0, 0, none⟩).block, i, none⟩ = some (.int .i64 (l2.getD i 0)) by
                have hr := HE.out.2.1
                rw [← hnl] at hr
                obtain ⟨g, hg, _, _, hf, hc⟩ := own_row hr (by omega)
                subst hg
                exact ⟨hf, fun i hi => hc i (by omega)⟩)
              obtain ⟨AG, hAG⟩ : ∃ AG : Nat, AN = some ⟨AG, 0, none⟩ := by
                have hr := HE.out.2.1
                rw [← hnl] at hr
                obtain ⟨g, hg, _⟩ := own_row hr (by omega)
                exact ⟨g, hg⟩
              subst hAG
              simp only [Option.getD_some] at g1 g2
              by_cases hjT : j < T
              · have hjz : (j : Int) < (T : Int) := by omega
                have y2 := g2 j (by omega)
                have e1 := cntP_succ l2 j
                obtain ⟨x, hx⟩ : ∃ x, x = l2.getD j 0 := ⟨_, rfl⟩
                rw [← hx] at y2 e1
                obtain ⟨c1, hc1⟩ : ∃ c1, c1 = cntP l2 j := ⟨_, rfl⟩
                rw [← hc1] at hcl e1 ⊢
                have hj6 : (j : Int) < 6 := by omega
                clear g1 g2 hx hc1 hnl
                by_cases hx0 : 0 < x
                · rw [livI_yes hx0] at e1
                  have HE1 := Lib.hid e1
                  clear e1
                  go_wp2_with fail
                  go_roundw
                  case measure => simp [intOf]; omega
                  case rel => exact ⟨j + 1, by omega, by go_num, by rw [HE1.out]; go_num, by first | trivial | rfl⟩
                · rw [livI_no hx0] at e1
                  have HE1 := Lib.hid e1
                  clear e1
                  go_wp2_with fail
                  go_roundw
                  case measure => simp [intOf]; omega
                  case rel => exact ⟨j + 1, by omega, by go_num, by rw [HE1.out, Nat.add_zero], by first | trivial | rfl⟩
              · obtain rfl : j = T := by omega
                have hjz : ¬ (j : Int) < (j : Int) := by omega
                obtain ⟨h1, h2, h3, h4⟩ := HE.out
                have hpl := pickF_len t k m
                obtain ⟨v', w', hrun, hown, hb2⟩ := push_any (cntP l2 j : Int) h4 h1 (by omega)
                rw [← HPK.out] at hown
                have hAB := (HANB.out _ rfl)
                simp only at hAB
                have h2' := own_keeps h2 fun g hg => hb2.block g (by simp [Value.ownBlock] at hg; omega)
                obtain ⟨f1, f2⟩ := own_at h2' hnl.symm (by omega)
                have z2 := f2 j (by omega)
                have zf := f1 j
                have hput := own_put h2' hnl.symm j (l2.getD j 0 - 1)
                rw [HS.out] at hput
                have hbx := HBD.out j
                have y5 := HY1.out w' (h3.trans (hb2.mono (by omega)))
                obtain ⟨x, hx⟩ : ∃ x, x = l2.getD j 0 := ⟨_, rfl⟩
                rw [← hx] at z2 hput hbx
                have HFN : Hid (Own (w'.setCell ⟨AG, j, none⟩ (.int .i64 (x - 1))) w4.heap.size v' (pickF t k (m + 1)) ∧ Own (w'.setCell ⟨AG, j, none⟩ (.int .i64 (x - 1))) wo.heap.size (.slice (some ⟨AG, 0, none⟩) 6 cN) (nowF t k (m + 1)) ∧ Below wo.heap.size wo (w'.setCell ⟨AG, j, none⟩ (.int .i64 (x - 1))) ∧ w4.heap.size ≤ (w'.setCell ⟨AG, j, none⟩ (.int .i64 (x - 1))).heap.size) := by
                  refine ⟨own_keeps hown fun g hg => heap_other ?_, hput, (h3.trans (hb2.mono (by omega))).setCell (p := ⟨AG, j, none⟩) hAB.1 _, ?_⟩
                  · have := (World.ownsRow.lt hown g hg).1; omega
                  · have := hb2.size; simp; omega
                have HRun := Lib.hid hrun
                generalize cntP l2 j = c1 at *
                have hj6 : (j : Int) < 6 := by omega
                clear g1 g2 h1 h2 h3 h4 hpl hrun hown hb2 hAB h2' f1 f2 hput hx hcl hnl
                go_wp2_with (at_builtin; refine Lib.wpList_append_run _ rfl (.tmp 65) (.tmp 67) 22 22 rfl _ _ rfl rfl _ _ HRun.out ?_)
                go_roundw
                case measure => simp [intOf]; omega
                case rel => exact ⟨m + 1, by omega, by go_num, HFN.out⟩
          · obtain rfl : m = k := by omega
            have hmz : ¬ (m : Int) < (m : Int) := by omega
            obtain ⟨AP, cP, hv, hcP, hNP⟩ := h1.reads
            rw [pickF_len] at hv hcP
            subst hv
            have hA10 : Now wr (some ⟨D, 0, none⟩) (leftF t m) := (own_now HN.out.2.1 (leftF_len t m).symm).below h3
            have hIP : InL wr AP (pickF t m m) cP := ⟨hNP, by rw [pickF_len]; omega, fun j hj => by
              rw [pickF_len] at hj
              rw [pickF_get t m hj]
              have h1 := cntP_le (nowF t m j) (t j)
              have h2 := HT.out j
              unfold I64
              omega⟩
            have htn := turns11_any AP (some ⟨D, 0, none⟩) (pickF t m m) (leftF t m) cP 6 wr hIP hA10 (by rw [leftF_len]; decide) (fun j => by
              by_cases hj : j < 6
              · rw [show (leftF t m).getD j 0 = (occP t j m : Int) from rowF_get _ hj]
                have := occP_le t j m
                omega
              · rw [getD_past _ (by rw [leftF_len]; omega)]; decide) (by rw [all_tot t m HT.out]; omega)
            rw [pickF_len, leftF_len] at htn
            have HAT := Lib.hid (all_told t m HT.out)
            have HB9 := Lib.hid (HN.out.2.2.1.trans (h3.mono HN.out.2.2.1.size))
            have HNO2 := Lib.hid (HNO.out.below h3)
            clear h1 h2 h3 h4 hNP hIP hA10 HH hmk
            go_wp2_with fail
            refine htn.mono ?_
            rintro r w6 ⟨v6, rfl, ho6, hb6⟩
            rw [HAT.out] at ho6
            obtain ⟨A6, c6, rfl, hc6, hN6⟩ := own_slice ho6
            have hN62 := HNO2.out.below hb6
            have HB10 := Lib.hid (Qt.more HB9.out HB9.out.size hb6)
            have hin := ints_yes (c := c6) (c' := cO) hN6 hN62 rfl (turnF_len t m).symm (by rw [turnF_len]; omega) rfl
            rw [turnF_len] at hin
            rw [turnF_len]
            clear htn ho6 hb6 hN6 hN62
            go_wp2_with fail
            refine hin.mono ?_
            rintro r w7 ⟨rfl, hb7⟩
            have HB11 := Lib.hid (Qt.more HB10.out HB10.out.size hb7)
            clear hin hb7
            go_wp2_with fail
            go_ret
            exact ⟨rfl, HB11.out⟩
end Go.Proofs.Ytffknldagconmaa
