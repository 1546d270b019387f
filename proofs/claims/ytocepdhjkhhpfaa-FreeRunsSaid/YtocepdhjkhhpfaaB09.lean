/-
  Texts that the claims of this seat share, part 9.
-/
import Derived.Test.YtocepdhjkhhpfaaB07
import Derived.Test.YtocepdhjkhhpfaaB08
import Derived.Test.YtocepdhjkhhpfaaB00
import Derived.Test.YtocepdhjkhhpfaaB04
import Derived.Test.YtocepdhjkhhpfaaB03
import Derived.Test.YtocepdhjkhhpfaaB06
set_option linter.unusedVariables false
set_option linter.unusedSimpArgs false
namespace Go.Proofs.Ytocepdhjkhhpfaa
set_option linter.unusedVariables false
open Go.RowKit Go.Sort
theorem stepL_any (w0 : Wk) (at0 : Int) (m : List Int) (A : Option Addr) (c b : Nat) (w : World) {B : Nat} (hf : FineW w0) (ha1 : 0 ≤ at0) (ha2 : at0 ≤ 1099511627776) (hm : ∀ x ∈ m, WdI x) (hB : B ≤ w.heap.size) (hO : Own w B (.slice A m.length c) m) (hl : m.length ≤ 1000000) (hM : MapOk w b) :
    Calls Try.prog 41 #[liV A m.length c at0 b, wkV w0] w (StepR B (.slice A m.length c) (stepW at0 m w0) w) := by
  obtain ⟨q, hq, hj, hp⟩ := stage_of hf
  by_cases h : q < 3
  · exact stepL_a q hq h w0 at0 m A c b w hf hj hp ha1 ha2 hm hB hO hl hM
  · exact stepL_b q hq (by omega) w0 at0 m A c b w hf hj hp ha1 ha2 hm hB hO hl hM
end Go.Proofs.Ytocepdhjkhhpfaa
namespace Go.Proofs.Ytocepdhjkhhpfaa
set_option maxRecDepth 100000
set_option linter.unusedVariables false
set_option linter.unusedSimpArgs false
open Go.RowKit Go.Sort

/-- what is left of raw numbers -/
def leftTo (raw : List Int) (k : Nat) : List Int := (raw.take k).map fun x => pickI x 8
def leftP (raw : List Int) : List Int := leftTo raw (min raw.length 10)
theorem leftTo_len (raw : List Int) {k : Nat} (h : k ≤ raw.length) : (leftTo raw k).length = k := by unfold leftTo; simp; omega
theorem leftTo_succ {raw : List Int} {k : Nat} (h : k < raw.length) : leftTo raw (k + 1) = leftTo raw k ++ [pickI (raw.getD k 0) 8] := by
  unfold leftTo
  rw [List.take_add_one, List.map_append, List.getD_eq_getElem?_getD, List.getElem?_eq_getElem h]
  rfl
theorem leftP_len (raw : List Int) : (leftP raw).length ≤ 10 := by
  unfold leftP
  rw [leftTo_len raw (by omega)]
  omega
theorem leftP_bd (raw : List Int) (k : Nat) : 0 ≤ (leftP raw).getD k 0 ∧ (leftP raw).getD k 0 ≤ 7 := by
  by_cases h : k < (leftP raw).length
  · rw [List.getD_eq_getElem?_getD, List.getElem?_eq_getElem h, Option.getD_some]
    have hm := List.getElem_mem h
    unfold leftP leftTo at hm
    obtain ⟨x, _, hx⟩ := List.mem_map.1 hm
    have := pickI_bd x 8 (by decide)
    simp only [← hx, leftP, leftTo] at this ⊢
    omega
  · rw [getD_past _ (by omega)]; decide
def OwnI (l : List Int) (w : World) (r : Ending) (w' : World) : Prop := ∃ v, r = .returned v ∧ Own w' w.heap.size v l ∧ Below w.heap.size w w'
/-! ### rankOf -/
theorem rankP_no {picks : List Int} {step : Int} {m u : Nat} (h : step < 0 ∨ (picks.length : Int) ≤ step) : rankP picks step m u = u % m := by
  unfold rankP
  rw [if_neg (by omega)]
theorem rankP_yes {picks : List Int} {s m u : Nat} (h : s < picks.length) : rankP picks (s : Int) m u = (pickI (picks.getD s 0) m).toNat := by
  unfold rankP
  rw [if_pos (by omega), Int.toNat_natCast]
theorem rankOf_any (A : Option Addr) (picks : List Int) (c : Nat) (step : Int) (m u : Nat) (w : World) (hR : Now w A picks) (hl : picks.length ≤ 9223372036854775807) (hp : ∀ j, j < picks.length → I64 (picks.getD j 0)) (hm : 1 ≤ m) (hm2 : m ≤ 1000000) (hu : u ≤ 1000000) (hs : I64 step) :
    Calls Try.prog 86 #[.slice A picks.length c, .int .i64 step, .int .i64 (m : Int), .int .i64 (u : Int)] w fun e w' => e = .returned (.int .i64 (rankP picks step m u : Int)) ∧ w = w' := by
  obtain ⟨s1, s2⟩ := hs
  by_cases h : step < 0 ∨ (picks.length : Int) ≤ step
  · rw [rankP_no h]
    have HQ : Hid ((u : Int) % (m : Int) = ((u % m : Nat) : Int)) := by show _ = _; simp
    by_cases h0 : step < 0
    · go_enter Try.func86, Try.ntmps86
      go_wp2
      go_ret
      exact ⟨Qt.ret_int (by first | exact HQ.out | rfl), rfl⟩
    · have h1 : (picks.length : Int) ≤ step := by omega
      go_enter Try.func86, Try.ntmps86
      go_wp2
      go_ret
      exact ⟨Qt.ret_int (by first | exact HQ.out | rfl), rfl⟩
  · obtain ⟨s, rfl⟩ : ∃ s : Nat, step = s := ⟨step.toNat, by omega⟩
    have hs : s < picks.length := by omega
    rw [rankP_yes hs]
    have hsz : ¬ (picks.length : Int) ≤ (s : Int) := by omega
    have hs0 : ¬ (s : Int) < 0 := by omega
    obtain ⟨b, off, rfl, hbB, hcell⟩ := Rd.at_ hR (by omega)
    have y0 := hcell s hs
    have i0 := hp s hs
    obtain ⟨x, hx⟩ : ∃ x, x = picks.getD s 0 := ⟨_, rfl⟩
    rw [← hx] at y0 i0 ⊢
    have hpb := pickI_bd x m (by omega)
    obtain ⟨i1, i2⟩ := i0
    have hr : (((pickI x m).toNat : Nat) : Int) = pickI x m := by omega
    rw [hr]
    clear hr
    generalize hrr : pickI x m = r
    have HR := Lib.hid hrr
    clear hrr hcell hR hp hpb hx
    by_cases hneg : x < 0
    · go_enter Try.func86, Try.ntmps86
      go_wp2
      go_ret
      refine ⟨?_, rfl⟩
      refine Qt.ret_int ?_
      rw [← HR.out]
      unfold pickI
      rw [if_pos (by assumption), ← Int.neg_tmod, Int.tmod_eq_emod_of_nonneg (by omega)]
    · go_enter Try.func86, Try.ntmps86
      go_wp2
      go_ret
      refine ⟨?_, rfl⟩
      refine Qt.ret_int ?_
      rw [← HR.out]
      unfold pickI
      rw [if_neg (by omega)]
/-! ### lowest, bits.Len -/
def lowN (n : Nat) : Nat := if n % 2 = 1 then 1 else if n % 4 = 2 then 2 else if n % 8 = 4 then 4 else if n % 16 = 8 then 8 else 16
def lenN (n : Nat) : Nat := if n = 0 then 0 else if n < 2 then 1 else if n < 4 then 2 else if n < 8 then 3 else 4
end Go.Proofs.Ytocepdhjkhhpfaa
namespace Go.Proofs.Ytocepdhjkhhpfaa
set_option maxRecDepth 100000
set_option linter.unusedVariables false
set_option linter.unusedSimpArgs false
open Go.RowKit Go.Sort

/-- a list of numbers that came in -/
structure InL (w : World) (A : Option Addr) (l : List Int) (c : Nat) : Prop where
  now : Now w A l
  len : l.length ≤ 9223372036854775807
  fit : ∀ j, j < l.length → I64 (l.getD j 0)
theorem InL.below {w w' : World} {A : Option Addr} {l : List Int} {c : Nat} (h : InL w A l c) (hb : Below w.heap.size w w') : InL w' A l c := ⟨h.now.below hb, h.len, h.fit⟩
theorem upto_step (l : List Int) (last : Int) {k : Nat} (h : 0 < l.getD k 0) (hl : (k : Int) ≤ last) : cntP l (min (k + 1) (last + 1).toNat) = cntP l (min k (last + 1).toNat) + 1 := by
  rw [show min (k + 1) (last + 1).toNat = k + 1 by omega, show min k (last + 1).toNat = k by omega, live_cnt h]
theorem upto_same (l : List Int) (last : Int) {k : Nat} (h : ¬ 0 < l.getD k 0 ∨ last < (k : Int)) : cntP l (min (k + 1) (last + 1).toNat) = cntP l (min k (last + 1).toNat) := by
  by_cases hk : k + 1 ≤ (last + 1).toNat
  · rw [show min (k + 1) (last + 1).toNat = k + 1 by omega, show min k (last + 1).toNat = k by omega, cntP_succ]
    rcases h with h | h
    · rw [livI_no h, Nat.add_zero]
    · omega
  · rw [show min (k + 1) (last + 1).toNat = min k (last + 1).toNat by omega]
theorem upto_all (l : List Int) (last : Int) : cntP l (min l.length (last + 1).toNat) = uptoP l last := by
  unfold uptoP
  rcases Nat.le_total l.length (last + 1).toNat with h | h
  · rw [Nat.min_eq_left h, cntP_past l h]; rfl
  · rw [Nat.min_eq_right h]
set_option maxHeartbeats 8000000 in
theorem next11_any (A B : Option Addr) (picks l : List Int) (c d : Nat) (step last : Int) (w : World) (hP : InL w A picks c) (hL : InL w B l d) (hl : l.length ≤ 1000000) (hs : I64 step) (hla : I64 last) :
    Calls Try.prog 60 #[.slice A picks.length c, .int .i64 step, .slice B l.length d, .int .i64 last] w fun e w' => e = .returned (.int .i64 (nextP picks step l last)) ∧ w = w' := by
  generalize hr : nextP picks step l last = r
  have HR := Lib.hid hr
  have HP := Lib.hid hP
  have HL := Lib.hid hL
  have HS := Lib.hid hs
  obtain ⟨la1, la2⟩ := hla
  clear hr hP hL hs
  go_enter Try.func60, Try.ntmps60
  go_wp2
  go_loopw [9, 10, 17] (fun m u i wr => ∃ k : Nat, k ≤ l.length ∧ i = .int .i64 k ∧ m = .int .i64 (cntP l k : Int) ∧ u = .int .i64 (cntP l (min k (last + 1).toNat) : Int) ∧ wr = w) (fun _ _ i _ => l.length - (intOf i).toNat)
  case atStart => exact ⟨0, Nat.zero_le _, rfl, rfl, by rw [Nat.zero_min]; rfl, rfl⟩
  case round =>
    obtain ⟨k, hk, rfl, rfl, rfl, hwr⟩ := hrel
    subst hwr
    by_cases hlt : k < l.length
    · have hltz : (k : Int) < (l.length : Int) := by omega
      obtain ⟨b, off, rfl, hbB, hcell⟩ := Rd.at_ HL.out.now (by omega)
      have y0 := hcell k hlt
      have e1 := cntP_succ l k
      have e2 := @upto_step l last k
      have e3 := @upto_same l last k
      have hc1 := cntP_le l k
      have hc2 := cntP_le l (min k (last + 1).toNat)
      obtain ⟨x, hx⟩ : ∃ x, x = l.getD k 0 := ⟨_, rfl⟩
      rw [← hx] at y0 e1 e2 e3
      obtain ⟨m, hm⟩ : ∃ m, m = cntP l k := ⟨_, rfl⟩
      obtain ⟨u, hu⟩ : ∃ u, u = cntP l (min k (last + 1).toNat) := ⟨_, rfl⟩
      rw [← hm] at e1 hc1 ⊢
      rw [← hu] at e2 e3 hc2 ⊢
      have hmk : m ≤ 1000000 := by omega
      have huk : u ≤ 1000000 := by omega
      have HX := Lib.hid hx
      clear hcell hx hm hu hc1 hc2
      by_cases h0 : x < 1
      · rw [livI_no (by omega)] at e1
        have e4 := e3 (.inl (by omega))
        have HE := Lib.hid (And.intro e1 e4)
        clear e1 e2 e3 e4
        go_wp2
        go_roundw
        case measure => simp [intOf]; omega
        case rel => exact ⟨k + 1, by omega, by go_num, by rw [HE.out.1]; rfl, by rw [HE.out.2], by first | trivial | rfl⟩
      · rw [livI_yes (by omega)] at e1
        by_cases h1 : (k : Int) ≤ last
        · have e4 := e2 (by omega) h1
          have HE := Lib.hid (And.intro e1 e4)
          clear e1 e2 e3 e4
          go_wp2
          go_roundw
          case measure => simp [intOf]; omega
          case rel => exact ⟨k + 1, by omega, by go_num, by rw [HE.out.1]; go_num, by rw [HE.out.2]; go_num, by first | trivial | rfl⟩
        · have e4 := e3 (.inr (by omega))
          have HE := Lib.hid (And.intro e1 e4)
          clear e1 e2 e3 e4
          go_wp2
          go_roundw
          case measure => simp [intOf]; omega
          case rel => exact ⟨k + 1, by omega, by go_num, by rw [HE.out.1]; go_num, by rw [HE.out.2], by first | trivial | rfl⟩
    · obtain rfl : k = l.length := by omega
      have hltz : ¬ (l.length : Int) < (l.length : Int) := by omega
      rw [upto_all, show cntP l l.length = manyP l from rfl]
      have hm1 := many_le l
      have hu1 : uptoP l last ≤ 1000000 := by have := cntP_many l (last + 1).toNat; unfold uptoP; omega
      have hnx := @nextN_ok picks step l last
      have hdef : nextN picks step l last = kthP l (rankP picks step (manyP l) (uptoP l last)) := rfl
      have hro := fun W (h : InL W A picks c) (hm : 1 ≤ manyP l) => rankOf_any A picks c step (manyP l) (uptoP l last) W h.now h.len h.fit hm (by omega) hu1 HS.out
      have hrl := fun hm => rankP_lt picks step (many := manyP l) (uptoP l last) hm
      have hnp : nextP picks step l last = if manyP l = 0 then -1 else (nextN picks step l last : Int) := rfl
      rw [HR.out] at hnp
      obtain ⟨u, hu⟩ : ∃ u, u = uptoP l last := ⟨_, rfl⟩
      obtain ⟨rk, hrk⟩ : ∃ rk, rk = rankP picks step (manyP l) u := ⟨_, rfl⟩
      rw [← hu] at hu1 hro hrl hnx hdef ⊢
      rw [← hrk] at hro hrl hnx hdef
      obtain ⟨T, hT⟩ : ∃ T, T = nextN picks step l last := ⟨_, rfl⟩
      rw [← hT] at hnx hdef hnp
      have hkl := fun (p : Nat) (h : rk < manyP l) => kth_lt (l := l) (r := rk) (p := p) h
      rw [← hdef] at hkl
      by_cases hm0 : manyP l = 0
      · rw [if_pos hm0] at hnp
        subst hnp
        clear hnx hro hrl hkl
        rw [hm0]
        go_wp2
        go_ret
        exact ⟨rfl, rfl⟩
      · rw [if_neg hm0] at hnp
        have hmz : ¬ ((manyP l : Nat) : Int) = 0 := by omega
        have hmz2 : (((manyP l : Nat) : Int) == 0) = false := beq_eq_false_iff_ne.2 hmz
        obtain ⟨n1, n2, n3⟩ := hnx (by omega)
        have hro := hro wr HP.out (by omega)
        have hrl := hrl (by omega)
        have HK := Lib.hid (fun p => hkl p hrl)
        have HN := Lib.hid hnp
        have HN2 := Lib.hid (And.intro n2 n3)
        clear hkl hnp hm0 hmz hnx n2 n3 hdef hu hrk hT
        generalize hmm : manyP l = m at *
        have HM := Lib.hid hmm
        clear hmm
        go_wp2_with fail
        refine hro.mono ?_
        rintro e w' ⟨rfl, hw'⟩
        subst hw'
        clear hro hmz2
        obtain ⟨wo, rfl⟩ : ∃ wo : World, wo = wr := ⟨_, rfl⟩
        go_wp2
        go_loopw [13, 14] (fun q p wr => ∃ (k s : Nat), k ≤ T ∧ p = .int .i64 k ∧ q = .int .i64 (s : Int) ∧ Hid (s + cntP l k = rk) ∧ wr = wo) (fun _ p _ => l.length - (intOf p).toNat)
        case atStart => exact ⟨0, rk, Nat.zero_le _, rfl, rfl, (show Hid _ from Nat.add_zero _), rfl⟩
        case round =>
          obtain ⟨k, s, hkT, rfl, rfl, HC, hwr2⟩ := hrel
          subst hwr2
          have hlt : k < l.length := by omega
          have hltz : (k : Int) < (l.length : Int) := by omega
          obtain ⟨b, off, rfl, hbB, hcell⟩ := Rd.at_ HL.out.now (by omega)
          have y0 := hcell k hlt
          have e1 := cntP_succ l k
          have hki := @live_inj l k T
          have hks : k ≠ T → cntP l (k + 1) ≤ cntP l T := fun h => cntP_mono l (by omega)
          obtain ⟨n2, n3⟩ := HN2.out
          have hC := HC.out
          obtain ⟨x, hx⟩ : ∃ x, x = l.getD k 0 := ⟨_, rfl⟩
          rw [← hx] at y0 e1 hki
          have HX := Lib.hid hx
          clear hcell hx
          by_cases h0 : x < 1
          · rw [livI_no (by omega)] at e1
            have hne : k ≠ T := fun e => by have hx := HX.out; rw [e] at hx; omega
            have HE := Lib.hid (show s + cntP l (k + 1) = rk by omega)
            clear e1 hki hks n2 n3 hC
            go_wp2
            go_roundw
            case measure => simp [intOf]; omega
            case rel => exact ⟨k + 1, s, by omega, by go_num, rfl, (show Hid _ from HE.out), by first | trivial | rfl⟩
          · rw [livI_yes (by omega)] at e1
            by_cases h1 : s = 0
            · have hkT2 : k = T := hki (by omega) n2 (by omega)
              subst h1 hkT2
              have hN := HN.out
              clear e1 hki hks n2 n3 hC
              go_wp2
              go_ret
              exact ⟨by first | rfl | rw [hN], by first | trivial | rfl⟩
            · have hne : k ≠ T := fun e => by rw [e] at hC; omega
              have HE := Lib.hid (show (s - 1) + cntP l (k + 1) = rk by omega)
              have hsz : (0 : Int) < (s : Int) := by omega
              have hx2 : (0 : Int) < x := by omega
              have hsl : s ≤ 1000000 := by omega
              clear e1 hki hks n2 n3 hC
              go_wp2
              go_roundw
              case measure => simp [intOf]; omega
              case rel => exact ⟨k + 1, s - 1, by omega, by go_num, by rw [show ((s - 1 : Nat) : Int) = (s : Int) - 1 by omega], (show Hid _ from HE.out), by first | trivial | rfl⟩
end Go.Proofs.Ytocepdhjkhhpfaa
namespace Go.Proofs.Ytocepdhjkhhpfaa
set_option linter.unusedVariables false
open Go.RowKit Go.Sort

theorem below_drew (w : World) : Below w.heap.size w w.drew := ⟨rfl, rfl, rfl, Nat.le_refl _, fun k _ => rfl⟩
/-- A region that draws its order, by a script with calm operations, to what is known at its end. -/
theorem region_calm_to {P : Program} {id : Nat} {Q : Exit → Act → World → Prop} {a : Act} {w : World} {l : List Oper} (C : World → Prop) (R : Act → Act → World → Prop) (s : Qt.Scc) (hm : P.follows .mixedOrders = true) (hsel : Region.noSelect l.toArray = true)
    (hB : Qt.treeCB .any l.toArray s (Array.replicate l.toArray.size false) = true) (hlen : s.len = l.length) (hC : C w.drew)
    (h : Qt.treeCW P l.toArray C (R a) s a w.drew) (hQ : ∀ a' w', R a a' w' → Q .normal a' w') : (Code.region id l.toArray true).wp P Q a w :=
  Qt.region_calm C (R a) s hm hsel hB hlen hC h hQ
end Go.Proofs.Ytocepdhjkhhpfaa
namespace Go.Proofs.Ytocepdhjkhhpfaa
set_option maxRecDepth 100000
set_option linter.unusedVariables false
set_option linter.unusedSimpArgs false
open Go.RowKit Go.Sort

theorem length_set_wk (l : List Wk) (j : Nat) (u : Wk) : (l.set j u).length = l.length := by simp
/-- what is left, while it is being told -/
def lefT (l : List Wk) (k : Nat) : List Int := leftW (l.take k) ++ List.replicate (l.length - k) 0
theorem lefT_len {l : List Wk} {k : Nat} (h : k ≤ l.length) : (lefT l k).length = l.length := by unfold lefT; rw [List.length_append, leftW_len, List.length_take, List.length_replicate]; omega
theorem lefT_zero (l : List Wk) : lefT l 0 = List.replicate l.length 0 := by simp [lefT, leftW]
theorem lefT_all (l : List Wk) : lefT l l.length = leftW l := by simp [lefT]
theorem lefT_succ (l : List Wk) {k : Nat} (h : k < l.length) : lefT l (k + 1) = (lefT l k).set k (if (l.getD k deadW).done then 0 else 1) := by
  unfold lefT
  have e1 : leftW (l.take (k + 1)) = leftW (l.take k) ++ [if (l.getD k deadW).done then 0 else 1] := by
    have e0 : l.take (k + 1) = l.take k ++ [l.getD k deadW] := by rw [List.take_add_one, List.getD_eq_getElem?_getD, List.getElem?_eq_getElem h]; rfl
    rw [e0]
    unfold leftW
    rw [List.map_append]
    rfl
  have e2 : l.length - k = (l.length - (k + 1)) + 1 := by omega
  have hl : (leftW (l.take k)).length = k := by rw [leftW_len, List.length_take]; omega
  rw [e1, e2, List.replicate_succ, List.set_append_right _ _ (by omega), hl, Nat.sub_self, List.set_cons_zero]
  simp
theorem lefT_same (l : List Wk) {k : Nat} (h : k < l.length) (hd : (l.getD k deadW).done = true) : lefT l (k + 1) = lefT l k := by
  rw [lefT_succ l h, hd]
  have hl : (leftW (l.take k)).length = k := by rw [leftW_len, List.length_take]; omega
  unfold lefT
  rw [List.set_append_right _ _ (by omega), hl, Nat.sub_self, show l.length - k = (l.length - (k + 1)) + 1 by omega, List.replicate_succ, List.set_cons_zero]
  rfl
theorem leftW_same {l : List Wk} {k : Nat} (h : k < l.length) (hd : (l.getD k deadW).done = false) {u : Wk} (hu : u.done = false) : leftW (l.set k u) = leftW l := by
  rw [leftW_set, hu]
  have e : (leftW l)[k]? = some 1 := by
    have := leftW_get l h
    rw [hd, List.getD_eq_getElem?_getD] at this
    rw [List.getElem?_eq_getElem (by rw [leftW_len]; exact h)] at this ⊢
    simpa using this
  rw [if_neg (by decide)]
  refine List.ext_getElem? fun j => ?_
  rw [List.getElem?_set]
  by_cases hj : k = j
  · subst hj; rw [if_pos rfl, e, if_pos (by rw [leftW_len]; exact h)]
  · rw [if_neg hj]
theorem mapOk_grown {w w' : World} {b B : Nat} {v : Value} {m : List Int} (h : MapOk w b) (hO : Own w B v m) (hg : w.grownBy w' v.ownBlock) : MapOk w' b := by
  obtain ⟨es, ck, h1, h2⟩ := h
  refine ⟨es, ck, (hg.block _ (lt_heap6' h1) (fun e => ?_)).trans h1, h2⟩
  rcases hO.2 with ⟨hv, _⟩ | ⟨g, cap, cur, hv, _, hh, _⟩
  · rw [hv] at e; cases e
  · rw [hv] at e
    injection e with e
    have e2 : g = b := (show b = g from e).symm
    subst e2
    rw [h1] at hh
    cases hh
theorem fit_set {l : List Wk} (h : ∀ j, j < l.length → FitW (l.getD j deadW)) (T : Nat) {u : Wk} (hu : FitW u) : ∀ j, j < (l.set T u).length → FitW ((l.set T u).getD j deadW) := by
  intro j hj
  rw [List.length_set] at hj
  rw [List.getD_eq_getElem?_getD, List.getElem?_set]
  by_cases e : T = j
  · rw [if_pos e, if_pos (by omega)]; exact hu
  · rw [if_neg e, ← List.getD_eq_getElem?_getD]; exact h j hj
theorem runA_zero (at0 : Int) (picks : List Int) (n : Nat) (m : List Int) (l : List Wk) (last : Int) (h : manyP (leftW l) ≠ 0) : runA at0 picks 0 n m l last = (m, l, 3) := by unfold runA; rw [if_neg h]
theorem runA_done (at0 : Int) (picks : List Int) (f n : Nat) (m : List Int) (l : List Wk) (last : Int) (h : manyP (leftW l) = 0) : runA at0 picks f n m l last = (m, l, 0) := by cases f <;> (unfold runA; rw [if_pos h])
theorem runA_step (at0 : Int) (picks : List Int) (f n : Nat) (m : List Int) (l : List Wk) (last : Int) (h : manyP (leftW l) ≠ 0) {T : Nat} (hT : nextN picks n (leftW l) last = T) {d : List Int × Wk × Int} (hd : stepW at0 m (l.getD T deadW) = d) :
    runA at0 picks (f + 1) n m l last = if d.2.2 = 0 then runA at0 picks f (n + 1) d.1 (l.set T d.2.1) (T : Int) else (m, l, d.2.2) := by
  subst hd hT
  conv => lhs; unfold runA
  rw [if_neg h]
/-- what together tells: all that was done, with the words as they are then; or an error -/
def TogR (B : Nat) (v : Value) (d : List Int × List Wk × Int) (w : World) (r : Ending) (w' : World) : Prop :=
  (∃ v2 m, r = .returned (.tuple #[v2, .int .i64 d.2.2]) ∧ Own w' B v m ∧ (d.2.2 = 0 → m = d.1 ∧ OwnWk w' w.heap.size v2 d.2.1)) ∧ w.grownBy w' v.ownBlock
/-- What is known at the head of the turns. -/
structure TogAt (at0 : Int) (picks : List Int) (R : List Int × List Wk × Int) (B : Nat) (vm : Value) (M L : Nat) (A2 : Option Addr) (c2 gl : Nat) (w wr : World) (n : Nat) (mm : List Int) (ll : List Wk) (last : Int) : Prop where
  words : Own wr B vm mm
  out : OwnWk wr w.heap.size (.slice A2 L c2) ll
  left : Own wr w.heap.size (.slice (some ⟨gl, 0, none⟩) L L) (leftW ll)
  apart : ∀ g, (Value.slice A2 L c2).ownBlock = some g → g ≠ gl
  grown : w.grownBy wr vm.ownBlock
  mlen : mm.length = M
  llen : ll.length = L
  mwd : ∀ x ∈ mm, WdI x
  lfit : ∀ j, j < ll.length → FitW (ll.getD j deadW)
  rest : runA at0 picks (100000 - n) n mm ll last = R
  lo : -1 ≤ last ∧ last ≤ 1000000
  hi : n ≤ 100000
theorem ownWk_mono {w : World} {B B' : Nat} {v : Value} {l : List Wk} (h : OwnWk w B v l) (hb : B' ≤ B) : OwnWk w B' v l := by
  refine ⟨h.1, ?_⟩
  rcases h.2 with hn | ⟨g, cap, cur, hv, hB, rest⟩
  · exact .inl hn
  · exact .inr ⟨g, cap, cur, hv, Nat.le_trans hb hB, rest⟩
set_option maxHeartbeats 16000000 in
theorem together_any (P : Option Addr) (picks : List Int) (cP : Nat) (L : Option Addr) (l : List Wk) (cL : Nat) (at0 : Int) (m : List Int) (A : Option Addr) (c b : Nat) (w : World) {B : Nat} (hP : ∀ W, w.grownBy W (Value.slice A m.length c).ownBlock → InL W P picks cP) (hL : NowWk w L l) (hll : l.length ≤ 64) (hF : ∀ j, j < l.length → FitW (l.getD j deadW)) (ha1 : 0 ≤ at0) (ha2 : at0 ≤ 1099511627776) (hm : ∀ x ∈ m, WdI x) (hB : B ≤ w.heap.size) (hO : Own w B (.slice A m.length c) m) (hl : m.length ≤ 1000000) (hM : MapOk w b) :
    Calls Try.prog 40 #[.slice P picks.length cP, .slice L l.length cL, .func (.func 41) #[liV A m.length c at0 b] #[]] w (TogR B (.slice A m.length c) (runA at0 picks 100000 0 m l (-1)) w) := by
  obtain ⟨R, hR⟩ : ∃ R, R = runA at0 picks 100000 0 m l (-1) := ⟨_, rfl⟩
  rw [← hR]
  have hcl := fun W (h : Below w.heap.size w W) => cloneWk_any L l cL W (hL.below h) (by omega)
  have HR := Lib.hid hR
  have HP := Lib.hid hP
  have HL := Lib.hid hL
  have HF := Lib.hid hF
  have HM := Lib.hid hm
  have HO := Lib.hid hO
  have HMap := Lib.hid hM
  clear hR hP hL hF hm hO hM
  go_enter Try.func40, Try.ntmps40
  go_wp2_with fail
  refine region_calm_to (fun W => Below w.heap.size w W) (fun (a0 a9 : Act) (w9 : World) => ∃ (A2 : Option Addr) (c2 gl : Nat), a9 = (((((((a0.put (some 16) (.slice L l.length cL)).put (some 18) (.slice L l.length cL)).put (some 19) (.int .i64 (l.length : Int))).put (some 17) (.slice A2 l.length c2)).put (some 8) (.slice A2 l.length c2)).put (some 20) (.slice (some ⟨gl, 0, none⟩) l.length l.length)).put (some 9) (.slice (some ⟨gl, 0, none⟩) l.length l.length)) ∧ OwnWk w9 w.heap.size (.slice A2 l.length c2) l ∧ Own w9 w.heap.size (.slice (some ⟨gl, 0, none⟩) l.length l.length) (List.replicate l.length 0) ∧ (∀ g, (Value.slice A2 l.length c2).ownBlock = some g → g ≠ gl) ∧ Below w.heap.size w w9)
    (.calm 0 (.calm 2 (.calm 3 (.two 1 4 (.calm 5 (.only 4 (.only 6 .done))) (.only 1 (.only 5 (.only 6 .done))))))) (by kernel_rfl) (by kernel_rfl) (by kernel_rfl) (by rfl) (below_drew _) ?_ ?_
  · skip
    refine ⟨_, _, .slice L l.length cL, rfl, rfl, ⟨rfl, fun W hW => by first | exact ⟨rfl, rfl⟩ | (simp only [Act.eval, execOp]; go_simp; try exact ⟨rfl, rfl⟩)⟩, ?_⟩
    simp only [Act.put, List.setIfInBounds_toArray, List.set_cons_succ, List.set_cons_zero]
    refine ⟨_, _, .slice L l.length cL, rfl, rfl, ⟨rfl, fun W hW => by first | exact ⟨rfl, rfl⟩ | (simp only [Act.eval, execOp]; go_simp; try exact ⟨rfl, rfl⟩)⟩, ?_⟩
    simp only [Act.put, List.setIfInBounds_toArray, List.set_cons_succ, List.set_cons_zero]
    refine ⟨_, _, .int .i64 (l.length : Int), rfl, rfl, ⟨rfl, fun W hW => by first | exact ⟨rfl, rfl⟩ | (simp only [Act.eval, execOp]; go_simp; try exact ⟨rfl, rfl⟩)⟩, ?_⟩
    simp only [Act.put, List.setIfInBounds_toArray, List.set_cons_succ, List.set_cons_zero]
    constructor
    · refine ⟨_, rfl, ?_⟩
      go_wp2_with fail
      refine (hcl _ (below_drew w)).mono ?_
      rintro e w1 ⟨v, rfl, ho, hb1⟩
      obtain ⟨A2, c2, rfl, hc2, _⟩ := ho.slice
      have hB1 := Qt.more (below_drew w) (Nat.le_refl _) hb1
      have ho1 : OwnWk w1 w.heap.size (.slice A2 l.length c2) l := ho
      go_wp2_with fail
      refine ⟨rfl, hB1, ?_⟩
      refine ⟨_, _, .slice A2 l.length c2, rfl, rfl, ⟨rfl, fun W hW => by first | exact ⟨rfl, rfl⟩ | (simp only [Act.eval, execOp]; go_simp; try exact ⟨rfl, rfl⟩)⟩, ?_⟩
      simp only [Act.put, List.setIfInBounds_toArray, List.set_cons_succ, List.set_cons_zero]
      obtain ⟨w2, hmk, hof, hg2⟩ := makeW l.length (by omega) w1
      have ho2 : OwnWk w2 w.heap.size (.slice A2 l.length c2) l := World.ownsRow.kept ho1 hg2 (by cases (Value.slice A2 l.length c2).ownBlock <;> simp)
      have hB2 := hB1.grown hg2 hB1.size (fun k e => by cases e)
      have hof2 := own_mono hof hB1.size
      have hap : ∀ g, (Value.slice A2 l.length c2).ownBlock = some g → g ≠ w1.heap.size := fun g e => by have := (World.ownsRow.lt ho1 g e).2; omega
      clear ho ho1 hb1 hg2 hof hcl
      refine ⟨_, rfl, ?_⟩
      go_wp2_with fail
      refine ⟨rfl, hB2, _, rfl, ?_⟩
      go_wp2_with fail
      exact ⟨rfl, hB2, A2, c2, w1.heap.size, rfl, ho2, hof2, hap, hB2⟩
    · obtain ⟨w2, hmk, hof, hg2⟩ := makeW l.length (by omega) w.drew
      have hB2 := (below_drew w).grown hg2 (Nat.le_refl _) (fun k e => by cases e)
      have hof2 : Own w2 w.heap.size (.slice (some ⟨w.heap.size, 0, none⟩) l.length l.length) (List.replicate l.length 0) := hof
      refine ⟨_, rfl, ?_⟩
      go_wp2_with fail
      refine ⟨rfl, hB2, _, rfl, ?_⟩
      go_wp2_with fail
      refine (hcl _ hB2).mono ?_
      rintro e w3 ⟨v, rfl, ho, hb3⟩
      obtain ⟨A2, c2, rfl, hc2, _⟩ := ho.slice
      have hB3 := Qt.more hB2 hB2.size hb3
      have hof3 := own_next hof2 hb3
      have hsz : w.heap.size < w2.heap.size := (World.ownsRow.lt hof2 _ rfl).2
      have hns : w2.heap.size ≤ w3.heap.size := hb3.size
      have hap : ∀ g, (Value.slice A2 l.length c2).ownBlock = some g → g ≠ w.heap.size := fun g e => by have := (World.ownsRow.lt ho g e).1; omega
      have ho3 : OwnWk w3 w.heap.size (.slice A2 l.length c2) l := ownWk_mono ho hB2.size
      clear hmk hof hg2 ho hb3 hcl
      go_wp2_with fail
      refine ⟨rfl, hB3, _, rfl, ?_⟩
      go_wp2_with fail
      refine ⟨rfl, hB3, _, rfl, ?_⟩
      go_wp2_with fail
      exact ⟨rfl, hB3, A2, c2, w.heap.size, rfl, ho3, hof3, hap, hB3⟩
  · rintro a9 w9 ⟨A2, c2, gl, rfl, hout, hleft, hap, hb9⟩
    have HOut := Lib.hid hout
    have HLeft := Lib.hid hleft
    have HAp := Lib.hid hap
    have HB9 := Lib.hid hb9
    clear hcl hout hleft hap hb9
    simp only [Act.put, List.setIfInBounds_toArray, List.set_cons_succ, List.set_cons_zero]
    go_wp2_with fail
    go_loopw [23] (fun i wr => ∃ k : Nat, k ≤ l.length ∧ i = .int .i64 k ∧ Hid (OwnWk wr w.heap.size (.slice A2 l.length c2) l ∧ Own wr w.heap.size (.slice (some ⟨gl, 0, none⟩) l.length l.length) (lefT l k) ∧ Below w.heap.size w wr)) (fun i _ => l.length - (intOf i).toNat)
    case atStart => exact ⟨0, Nat.zero_le _, rfl, (show Hid _ from ⟨HOut.out, by rw [lefT_zero]; exact HLeft.out, HB9.out⟩)⟩
    case round =>
      obtain ⟨k, hk, rfl, HH⟩ := hrel
      by_cases hlt : k < l.length
      · have hltz : (k : Int) < (l.length : Int) := by omega
        obtain ⟨h1, h2, h3⟩ := HH.out
        obtain ⟨b0, off, rfl, hb0, hc⟩ := HL.out k hlt
        have hc := hc.below (h3.block b0 hb0)
        have e0 := lefT_succ l hlt
        have e1 := lefT_same l hlt
        have hlen := lefT_len hk
        obtain ⟨⟨xpc, xjob, x0, x1, x2, xd, xo⟩, hx⟩ : ∃ x, x = l.getD k deadW := ⟨_, rfl⟩
        rw [← hx] at hc e0 e1
        simp only at e0 e1
        have HX := Lib.hid hx
        clear hx
        cases xd with
        | true =>
          have y0 := hc.c0
          have y1 := hc.c1
          have y2 := hc.c2
          have y3 := hc.c3
          have y4 := hc.c4
          have y5 := hc.c5
          have y6 := hc.c6
          have y7 := hc.c7
          have y8 := hc.c8
          have y9 := hc.c9
          have y10 := hc.c10
          have y11 := hc.c11
          simp only at y0 y1 y2 y3 y4 y10 y11
          have hal := (Below.refl wr.heap.size wr).alloc (Nat.le_refl _) (.cells #[.int .i64 xpc, .int .i64 xjob, .int .i64 x0, .int .i64 x1, .int .i64 x2, .int .i64 0, .int .i64 0, .int .i64 0, .int .i64 0, .int .i64 0, .bool true, .int .i64 xo] 39)
          have hw4 := Qt.more h3 h3.size hal
          have h1' := h1.next hal
          have h2' := own_next h2 hal
          obtain ⟨g', hg', -, -, hfz, hce⟩ := own_row (l := lefT l k) (A := some ⟨gl, 0, none⟩) (c := l.length) (by rw [hlen]; exact h2') (by omega)
          injection hg' with hg'
          injection hg' with hg'
          subst hg'
          have z0 := hce k (by omega)
          have z1 := hfz k
          obtain ⟨old, hold⟩ : ∃ old, old = (lefT l k).getD k 0 := ⟨_, rfl⟩
          rw [← hold] at z0
          have HN := Lib.hid (And.intro h1' (And.intro h2' hw4))
          have HLn := Lib.hid hlen
          clear hc h1 h2 h3 hal hw4 h1' h2' hfz hce hold HH hlen
          have HE := Lib.hid (e1 rfl)
          clear e0 e1
          go_wp2_with fail
          go_roundw
          case measure => simp [intOf]; omega
          case rel => exact ⟨k + 1, by omega, by go_num, (show Hid _ from by rw [HE.out]; exact HN.out)⟩
        | false =>
          have y0 := hc.c0
          have y1 := hc.c1
          have y2 := hc.c2
          have y3 := hc.c3
          have y4 := hc.c4
          have y5 := hc.c5
          have y6 := hc.c6
          have y7 := hc.c7
          have y8 := hc.c8
          have y9 := hc.c9
          have y10 := hc.c10
          have y11 := hc.c11
          simp only at y0 y1 y2 y3 y4 y10 y11
          have hal := (Below.refl wr.heap.size wr).alloc (Nat.le_refl _) (.cells #[.int .i64 xpc, .int .i64 xjob, .int .i64 x0, .int .i64 x1, .int .i64 x2, .int .i64 0, .int .i64 0, .int .i64 0, .int .i64 0, .int .i64 0, .bool false, .int .i64 xo] 39)
          have hw4 := Qt.more h3 h3.size hal
          have h1' := h1.next hal
          have h2' := own_next h2 hal
          obtain ⟨g', hg', -, -, hfz, hce⟩ := own_row (l := lefT l k) (A := some ⟨gl, 0, none⟩) (c := l.length) (by rw [hlen]; exact h2') (by omega)
          injection hg' with hg'
          injection hg' with hg'
          subst hg'
          have z0 := hce k (by omega)
          have z1 := hfz k
          obtain ⟨old, hold⟩ : ∃ old, old = (lefT l k).getD k 0 := ⟨_, rfl⟩
          rw [← hold] at z0
          have HN := Lib.hid (And.intro h1' (And.intro h2' hw4))
          have HLn := Lib.hid hlen
          clear hc h1 h2 h3 hal hw4 h1' h2' hfz hce hold HH hlen
          rw [if_neg (by decide)] at e0
          have HE := Lib.hid e0
          clear e0 e1
          go_wp2_with fail
          go_roundw
          case measure => simp [intOf]; omega
          case rel =>
            refine ⟨k + 1, by omega, by go_num, (show Hid _ from ?_)⟩
            obtain ⟨n1, n2, n3⟩ := HN.out
            obtain ⟨s1, s2⟩ := own_set (l := lefT l k) (c := l.length) (by rw [HLn.out]; exact n2) k 1
            rw [HLn.out] at s1
            rw [HE.out]
            refine ⟨World.ownsRow.kept n1 s2 (.inr (fun e => HAp.out _ e rfl)), s1, n3.grown s2 n3.size (fun q e => ?_)⟩
            injection e with e
            subst e
            exact (World.ownsRow.lt n2 _ rfl).1
      · obtain rfl : k = l.length := by omega
        have hltz : ¬ (l.length : Int) < (l.length : Int) := by omega
        rw [lefT_all] at HH
        obtain ⟨w1, hw1⟩ : ∃ w1, w1 = wr := ⟨_, rfl⟩
        rw [← hw1] at HH ⊢
        clear hw1
        have HT : Hid (TogAt at0 picks R B (.slice A m.length c) m.length l.length A2 c2 gl w w1 0 m l (-1)) := 
          ⟨own_next HO.out HH.out.2.2, HH.out.1, HH.out.2.1, HAp.out, grown_below HH.out.2.2 _, rfl, rfl, HM.out, HF.out, HR.out.symm, by decide, by omega⟩
        clear HH HOut HLeft HB9 HL HF HM
        go_wp2
        go_loopw [12, 13] (fun i lst wr => ∃ (n : Nat) (mm : List Int) (ll : List Wk) (last : Int), i = .int .i64 n ∧ lst = .int .i64 last ∧ Hid (TogAt at0 picks R B (.slice A m.length c) m.length l.length A2 c2 gl w wr n mm ll last)) (fun i _ _ => 100001 - (intOf i).toNat)
        case atStart => exact ⟨0, m, l, -1, rfl, rfl, HT⟩
        case round =>
          obtain ⟨n, mm, ll, last, rfl, rfl, HT⟩ := hrel
          have H := HT.out
          have hlw : (leftW ll).length = l.length := by rw [leftW_len]; exact H.llen
          have hn := H.hi
          have hla := H.lo
          have hnx := next11_any P (some ⟨gl, 0, none⟩) picks (leftW ll) cP l.length n last wr (HP.out wr H.grown) ⟨by
            obtain ⟨A9, c9, he, _, hN⟩ := own_slice (l := leftW ll) (by have := H.left; exact this)
            injection he with e1 e2 e3
            rw [← e1] at hN
            exact hN, by omega, fun j hj => by
              have := leftW_bd ll ((leftW ll).getD j 0) (by rw [List.getD_eq_getElem?_getD, List.getElem?_eq_getElem hj]; exact List.getElem_mem hj)
              unfold I64; omega⟩ (by omega) (by unfold I64; omega) (by unfold I64; omega)
          rw [hlw] at hnx
          by_cases hmz : manyP (leftW ll) = 0
          · have hnp : nextP picks n (leftW ll) last = -1 := by unfold nextP; rw [if_pos hmz]
            rw [hnp] at hnx
            have hend := H.rest
            rw [runA_done _ _ _ _ _ _ _ hmz] at hend
            have HE := Lib.hid hend
            clear hlw hn hla hend hnp hmz H
            go_wp2_with fail
            refine hnx.mono ?_
            rintro e w2 ⟨rfl, rfl⟩
            clear hnx
            go_wp2_with fail
            go_ret2
            rw [← HE.out]
            exact ⟨⟨_, mm, rfl, HT.out.words, fun _ => ⟨rfl, HT.out.out⟩⟩, HT.out.grown⟩
          · obtain ⟨T, hT⟩ : ∃ T, nextN picks n (leftW ll) last = T := ⟨_, rfl⟩
            have hnp : nextP picks n (leftW ll) last = (T : Int) := by unfold nextP; rw [if_neg hmz, hT]
            obtain ⟨t1, t2, -⟩ := nextN_ok picks n last (show 0 < manyP (leftW ll) by omega)
            rw [hT] at t1 t2
            rw [hnp] at hnx
            have HMZ := Lib.hid hmz
            have HTT := Lib.hid hT
            have hTl : T < ll.length := by rw [leftW_len] at t1; exact t1
            have hTL : T < l.length := by omega
            have hdn : (ll.getD T deadW).done = false := by
              rw [leftW_get ll hTl] at t2
              cases h : (ll.getD T deadW).done with
              | false => rfl
              | true => rw [h, if_pos rfl] at t2; omega
            clear hmz hT hnp t1 t2 hlw
            by_cases h100 : n = 100000
            · have hend := H.rest
              rw [show 100000 - n = 0 by omega, runA_zero _ _ _ _ _ _ HMZ.out] at hend
              have HE := Lib.hid hend
              subst h100
              clear hn hla hend H hTl hTL hdn
              go_wp2_with fail
              refine hnx.mono ?_
              rintro e w2 ⟨rfl, rfl⟩
              clear hnx
              go_wp2_with fail
              go_ret2
              rw [← HE.out]
              exact ⟨⟨_, mm, rfl, HT.out.words, fun h => by simp at h⟩, HT.out.grown⟩
            · have hnz : ((n : Int) == 100000) = false := beq_eq_false_iff_ne.2 (by omega)
              have hnl : n < 100000 := by omega
              have HLT := Lib.hid hnl
              have hout := H.out
              have hlen := H.llen
              obtain ⟨g2, hA2, -, hg2l, hfz2, hce2⟩ := OwnWk.row (A := A2) (c := c2) (by rw [hlen]; exact hout) (by omega)
              have hc := hce2 T hTl
              obtain ⟨x, hx⟩ : ∃ x, x = ll.getD T deadW := ⟨_, rfl⟩
              rw [← hx] at hc hdn
              have hfit := H.lfit T hTl
              rw [← hx] at hfit
              obtain ⟨xpc, xjob, x0, x1, x2, xd, xo⟩ := x
              simp only at hdn
              subst hdn
              have hst := stepL_any ⟨xpc, xjob, x0, x1, x2, false, xo⟩ at0 mm A c b wr (hfit.fine rfl) ha1 ha2 H.mwd (Nat.le_trans hB H.grown.size) (by rw [H.mlen]; exact H.words) (by rw [H.mlen]; exact hl) (mapOk_grown HMap.out HO.out H.grown)
              rw [H.mlen] at hst
              have HX := Lib.hid hx
              have HFit := Lib.hid hfit
              have y0 := hc.c0
              have y1 := hc.c1
              have y2 := hc.c2
              have y3 := hc.c3
              have y4 := hc.c4
              have y5 := hc.c5
              have y6 := hc.c6
              have y7 := hc.c7
              have y8 := hc.c8
              have y9 := hc.c9
              have y10 := hc.c10
              have y11 := hc.c11
              simp only at y0 y1 y2 y3 y4 y10 y11
              clear hn hla hout hlen hfz2 hce2 hc hx hfit H
              subst hA2
              go_wp2_with fail
              refine hnx.mono ?_
              rintro e w2 ⟨rfl, rfl⟩
              clear hnx
              go_wp2_with fail
              refine hst.mono ?_
              rintro e w2 ⟨rfl, hO2, hg2⟩
              clear hst y0 y1 y2 y3 y4 y5 y6 y7 y8 y9 y10 y11
              obtain ⟨d, hd⟩ : ∃ d, d = stepW at0 mm ⟨xpc, xjob, x0, x1, x2, false, xo⟩ := ⟨_, rfl⟩
              rw [← hd] at hO2 ⊢
              have hrest := HT.out.rest
              rw [show 100000 - n = (100000 - (n + 1)) + 1 by have := HT.out.hi; omega, runA_step _ _ _ _ _ _ _ HMZ.out HTT.out (d := d) (by rw [← HX.out, hd])] at hrest
              have hlend : d.1.length = m.length := by rw [hd, stepW_len]; exact HT.out.mlen
              have hfd := stepW_fit (at0 := at0) HT.out.mwd HFit.out
              rw [← hd] at hfd
              have HO2 := Lib.hid hO2
              have HG2 := Lib.hid hg2
              have HFD := Lib.hid hfd
              have HRest := Lib.hid hrest
              have HLD := Lib.hid hlend
              clear hO2 hg2 hfd hrest hlend hd
              obtain ⟨dm, ⟨upc, ujob, u0, u1, u2, ud, uo⟩, de⟩ := d
              simp only at HO2 HFD HRest HLD ⊢
              by_cases hde : de = 0
              · subst hde
                have hout2 : OwnWk w2 w.heap.size (.slice (some ⟨g2, 0, none⟩) l.length c2) ll := World.ownsRow.kept HT.out.out HG2.out (.inr (fun e => by
                  have h1 := (World.ownsRow.lt HO.out g2 e.symm).2
                  have h2 := (World.ownsRow.lt HT.out.out g2 rfl).1
                  omega))
                have hleft2 : Own w2 w.heap.size (.slice (some ⟨gl, 0, none⟩) l.length l.length) (leftW ll) := World.ownsRow.kept HT.out.left HG2.out (.inr (fun e => by
                  have h1 := (World.ownsRow.lt HO.out gl e.symm).2
                  have h2 := (World.ownsRow.lt HT.out.left gl rfl).1
                  omega))
                have hgr2 := HT.out.grown.trans HG2.out
                have hgs : w.heap.size ≤ w2.heap.size := hgr2.size
                have HH2 := Lib.hid (And.intro hout2 (And.intro hleft2 hgr2))
                clear hout2 hleft2 hgr2
                cases ud with
                | true =>
                  have hal := (Below.refl w2.heap.size w2).alloc (Nat.le_refl _) (.cells #[.int .i64 upc, .int .i64 ujob, .int .i64 u0, .int .i64 u1, .int .i64 u2, .int .i64 0, .int .i64 0, .int .i64 0, .int .i64 0, .int .i64 0, .bool true, .int .i64 uo] 39)
                  have hrow := heap_alloc_new w2 (.cells #[.int .i64 upc, .int .i64 ujob, .int .i64 u0, .int .i64 u1, .int .i64 u2, .int .i64 0, .int .i64 0, .int .i64 0, .int .i64 0, .int .i64 0, .bool true, .int .i64 uo] 39)
                  have hsz3 : w2.heap.size < (w2.alloc (.cells #[.int .i64 upc, .int .i64 ujob, .int .i64 u0, .int .i64 u1, .int .i64 u2, .int .i64 0, .int .i64 0, .int .i64 0, .int .i64 0, .int .i64 0, .bool true, .int .i64 uo] 39)).heap.size := by simp
                  obtain ⟨w3, hw3⟩ : ∃ w3, w2.alloc (.cells #[.int .i64 upc, .int .i64 ujob, .int .i64 u0, .int .i64 u1, .int .i64 u2, .int .i64 0, .int .i64 0, .int .i64 0, .int .i64 0, .int .i64 0, .bool true, .int .i64 uo] 39) = w3 := ⟨_, rfl⟩
                  rw [hw3] at hal hrow hsz3
                  obtain ⟨n1, n2, n3⟩ := HH2.out
                  have n1 := n1.next hal
                  have n2 := own_next n2 hal
                  have n3 := n3.trans (grown_below hal _)
                  have n4 := own_next HO2.out hal
                  obtain ⟨g', hA', -, -, hfz3, hce3⟩ := OwnWk.row (A := some ⟨g2, 0, none⟩) (c := c2) (l := ll) (by rw [HT.out.llen]; exact n1) (by omega)
                  injection hA' with hA'
                  injection hA' with hA'
                  subst hA'
                  have hcT := hce3 T hTl
                  obtain ⟨w4, hw4, hout4, hgr4⟩ := OwnWk.set (c := c2) (l := ll) (g := g2) (by rw [HT.out.llen]; exact n1) T hTl ⟨upc, ujob, u0, u1, u2, true, uo⟩
                  simp only at hw4
                  rw [HT.out.llen] at hout4
                  have hne : g2 ≠ w2.heap.size := by
                    have := (World.ownsRow.lt HH2.out.1 g2 rfl).2
                    omega
                  have hrow4 := (hgr4.block w2.heap.size hsz3 (fun e => by injection e with e; omega)).trans hrow
                  have n5 : Own w4 w.heap.size (.slice (some ⟨gl, 0, none⟩) l.length l.length) (leftW ll) := World.ownsRow.kept n2 hgr4 (.inr (fun e => by injection e with e; exact HT.out.apart g2 rfl e.symm))
                  have n6 : Own w4 B (.slice A m.length c) dm := World.ownsRow.kept n4 hgr4 (.inr (fun e => by
                    have h1 := (World.ownsRow.lt HO.out g2 e).2
                    have h2 := (World.ownsRow.lt HH2.out.1 g2 rfl).1
                    omega))
                  have n7 := grown_far n3 hgr4 (World.ownsRow.lt HH2.out.1 g2 rfl).1
                  have z0 := hcT.c0
                  have z1 := hcT.c1
                  have z2 := hcT.c2
                  have z3 := hcT.c3
                  have z4 := hcT.c4
                  have z5 := hcT.c5
                  have z6 := hcT.c6
                  have z7 := hcT.c7
                  have z8 := hcT.c8
                  have z9 := hcT.c9
                  have z10 := hcT.c10
                  have z11 := hcT.c11
                  have fz : ∀ q, w3.frozen? ⟨g2, q, none⟩ = false := hfz3
                  have b0 : w3.cell? ⟨w2.heap.size, 0, none⟩ = some (.int .i64 upc) := by rw [Lib.cell_of_heap hrow]; rfl
                  have b1 : w3.cell? ⟨w2.heap.size, 1, none⟩ = some (.int .i64 ujob) := by rw [Lib.cell_of_heap hrow]; rfl
                  have b2 : w3.cell? ⟨w2.heap.size, 2, none⟩ = some (.int .i64 u0) := by rw [Lib.cell_of_heap hrow]; rfl
                  have b3 : w3.cell? ⟨w2.heap.size, 3, none⟩ = some (.int .i64 u1) := by rw [Lib.cell_of_heap hrow]; rfl
                  have b4 : w3.cell? ⟨w2.heap.size, 4, none⟩ = some (.int .i64 u2) := by rw [Lib.cell_of_heap hrow]; rfl
                  have b5 : w3.cell? ⟨w2.heap.size, 5, none⟩ = some (.int .i64 0) := by rw [Lib.cell_of_heap hrow]; rfl
                  have b6 : w3.cell? ⟨w2.heap.size, 6, none⟩ = some (.int .i64 0) := by rw [Lib.cell_of_heap hrow]; rfl
                  have b7 : w3.cell? ⟨w2.heap.size, 7, none⟩ = some (.int .i64 0) := by rw [Lib.cell_of_heap hrow]; rfl
                  have b8 : w3.cell? ⟨w2.heap.size, 8, none⟩ = some (.int .i64 0) := by rw [Lib.cell_of_heap hrow]; rfl
                  have b9 : w3.cell? ⟨w2.heap.size, 9, none⟩ = some (.int .i64 0) := by rw [Lib.cell_of_heap hrow]; rfl
                  have b10 : w3.cell? ⟨w2.heap.size, 10, none⟩ = some (.bool true) := by rw [Lib.cell_of_heap hrow]; rfl
                  have b11 : w3.cell? ⟨w2.heap.size, 11, none⟩ = some (.int .i64 uo) := by rw [Lib.cell_of_heap hrow]; rfl
                  have b12 : w4.cell? ⟨w2.heap.size, 10, none⟩ = some (.bool true) := by rw [Lib.cell_of_heap hrow4]; rfl
                  have HW3 := Lib.hid hw3
                  have HW4 := Lib.hid hw4
                  have HN := Lib.hid (And.intro hout4 (And.intro n5 (And.intro n6 n7)))
                  obtain ⟨g'', hg'', -, -, hfl, hcl⟩ := own_row (l := leftW ll) (A := some ⟨gl, 0, none⟩) (c := l.length) (by rw [leftW_len, HT.out.llen]; exact n5) (by rw [leftW_len]; omega)
                  injection hg'' with hg''
                  injection hg'' with hg''
                  subst hg''
                  have s0 := hcl T (by rw [leftW_len]; exact hTl)
                  have s1 := hfl T
                  obtain ⟨old, hold⟩ : ∃ old, old = (leftW ll).getD T 0 := ⟨_, rfl⟩
                  rw [← hold] at s0
                  clear hold hfl hcl
                  clear hal hrow n1 n2 n3 n4 hfz3 hce3 hcT hw3 hw4 hout4 hgr4 hrow4 n5 n6 n7 hne
                  go_wp2_with (first | rw [HW3.out] | rw [HW4.out])
                  go_roundw
                  case measure => simp [intOf]; have := HLT.out; omega
                  case rel =>
                    obtain ⟨n4, n5, n6, n7⟩ := HN.out
                    have hrest := HRest.out
                    rw [if_pos rfl] at hrest
                    obtain ⟨s2, s3⟩ := own_set (l := leftW ll) (c := l.length) (by rw [leftW_len, HT.out.llen]; exact n5) T 0
                    rw [leftW_len, HT.out.llen] at s2
                    have hgl := (World.ownsRow.lt n5 gl rfl).1
                    refine ⟨n + 1, dm, ll.set T ⟨upc, ujob, u0, u1, u2, true, uo⟩, T, by go_num, rfl, (show Hid _ from ⟨World.ownsRow.kept n6 s3 (.inr (fun e => ?_)), World.ownsRow.kept n4 s3 (.inr (fun e => HT.out.apart _ e rfl)), ?_, HT.out.apart, grown_far n7 s3 hgl, HLD.out, by rw [List.length_set]; exact HT.out.llen, HFD.out.1, fit_set HT.out.lfit T HFD.out.2, hrest, by omega, by have := HLT.out; omega⟩)⟩
                    · have := (World.ownsRow.lt HO.out gl e).2
                      omega
                    · rw [leftW_set]
                      exact s2
                | false =>
                  have hal := (Below.refl w2.heap.size w2).alloc (Nat.le_refl _) (.cells #[.int .i64 upc, .int .i64 ujob, .int .i64 u0, .int .i64 u1, .int .i64 u2, .int .i64 0, .int .i64 0, .int .i64 0, .int .i64 0, .int .i64 0, .bool false, .int .i64 uo] 39)
                  have hrow := heap_alloc_new w2 (.cells #[.int .i64 upc, .int .i64 ujob, .int .i64 u0, .int .i64 u1, .int .i64 u2, .int .i64 0, .int .i64 0, .int .i64 0, .int .i64 0, .int .i64 0, .bool false, .int .i64 uo] 39)
                  have hsz3 : w2.heap.size < (w2.alloc (.cells #[.int .i64 upc, .int .i64 ujob, .int .i64 u0, .int .i64 u1, .int .i64 u2, .int .i64 0, .int .i64 0, .int .i64 0, .int .i64 0, .int .i64 0, .bool false, .int .i64 uo] 39)).heap.size := by simp
                  obtain ⟨w3, hw3⟩ : ∃ w3, w2.alloc (.cells #[.int .i64 upc, .int .i64 ujob, .int .i64 u0, .int .i64 u1, .int .i64 u2, .int .i64 0, .int .i64 0, .int .i64 0, .int .i64 0, .int .i64 0, .bool false, .int .i64 uo] 39) = w3 := ⟨_, rfl⟩
                  rw [hw3] at hal hrow hsz3
                  obtain ⟨n1, n2, n3⟩ := HH2.out
                  have n1 := n1.next hal
                  have n2 := own_next n2 hal
                  have n3 := n3.trans (grown_below hal _)
                  have n4 := own_next HO2.out hal
                  obtain ⟨g', hA', -, -, hfz3, hce3⟩ := OwnWk.row (A := some ⟨g2, 0, none⟩) (c := c2) (l := ll) (by rw [HT.out.llen]; exact n1) (by omega)
                  injection hA' with hA'
                  injection hA' with hA'
                  subst hA'
                  have hcT := hce3 T hTl
                  obtain ⟨w4, hw4, hout4, hgr4⟩ := OwnWk.set (c := c2) (l := ll) (g := g2) (by rw [HT.out.llen]; exact n1) T hTl ⟨upc, ujob, u0, u1, u2, false, uo⟩
                  simp only at hw4
                  rw [HT.out.llen] at hout4
                  have hne : g2 ≠ w2.heap.size := by
                    have := (World.ownsRow.lt HH2.out.1 g2 rfl).2
                    omega
                  have hrow4 := (hgr4.block w2.heap.size hsz3 (fun e => by injection e with e; omega)).trans hrow
                  have n5 : Own w4 w.heap.size (.slice (some ⟨gl, 0, none⟩) l.length l.length) (leftW ll) := World.ownsRow.kept n2 hgr4 (.inr (fun e => by injection e with e; exact HT.out.apart g2 rfl e.symm))
                  have n6 : Own w4 B (.slice A m.length c) dm := World.ownsRow.kept n4 hgr4 (.inr (fun e => by
                    have h1 := (World.ownsRow.lt HO.out g2 e).2
                    have h2 := (World.ownsRow.lt HH2.out.1 g2 rfl).1
                    omega))
                  have n7 := grown_far n3 hgr4 (World.ownsRow.lt HH2.out.1 g2 rfl).1
                  have z0 := hcT.c0
                  have z1 := hcT.c1
                  have z2 := hcT.c2
                  have z3 := hcT.c3
                  have z4 := hcT.c4
                  have z5 := hcT.c5
                  have z6 := hcT.c6
                  have z7 := hcT.c7
                  have z8 := hcT.c8
                  have z9 := hcT.c9
                  have z10 := hcT.c10
                  have z11 := hcT.c11
                  have fz : ∀ q, w3.frozen? ⟨g2, q, none⟩ = false := hfz3
                  have b0 : w3.cell? ⟨w2.heap.size, 0, none⟩ = some (.int .i64 upc) := by rw [Lib.cell_of_heap hrow]; rfl
                  have b1 : w3.cell? ⟨w2.heap.size, 1, none⟩ = some (.int .i64 ujob) := by rw [Lib.cell_of_heap hrow]; rfl
                  have b2 : w3.cell? ⟨w2.heap.size, 2, none⟩ = some (.int .i64 u0) := by rw [Lib.cell_of_heap hrow]; rfl
                  have b3 : w3.cell? ⟨w2.heap.size, 3, none⟩ = some (.int .i64 u1) := by rw [Lib.cell_of_heap hrow]; rfl
                  have b4 : w3.cell? ⟨w2.heap.size, 4, none⟩ = some (.int .i64 u2) := by rw [Lib.cell_of_heap hrow]; rfl
                  have b5 : w3.cell? ⟨w2.heap.size, 5, none⟩ = some (.int .i64 0) := by rw [Lib.cell_of_heap hrow]; rfl
                  have b6 : w3.cell? ⟨w2.heap.size, 6, none⟩ = some (.int .i64 0) := by rw [Lib.cell_of_heap hrow]; rfl
                  have b7 : w3.cell? ⟨w2.heap.size, 7, none⟩ = some (.int .i64 0) := by rw [Lib.cell_of_heap hrow]; rfl
                  have b8 : w3.cell? ⟨w2.heap.size, 8, none⟩ = some (.int .i64 0) := by rw [Lib.cell_of_heap hrow]; rfl
                  have b9 : w3.cell? ⟨w2.heap.size, 9, none⟩ = some (.int .i64 0) := by rw [Lib.cell_of_heap hrow]; rfl
                  have b10 : w3.cell? ⟨w2.heap.size, 10, none⟩ = some (.bool false) := by rw [Lib.cell_of_heap hrow]; rfl
                  have b11 : w3.cell? ⟨w2.heap.size, 11, none⟩ = some (.int .i64 uo) := by rw [Lib.cell_of_heap hrow]; rfl
                  have b12 : w4.cell? ⟨w2.heap.size, 10, none⟩ = some (.bool false) := by rw [Lib.cell_of_heap hrow4]; rfl
                  have HW3 := Lib.hid hw3
                  have HW4 := Lib.hid hw4
                  have HN := Lib.hid (And.intro hout4 (And.intro n5 (And.intro n6 n7)))
                  clear hal hrow n1 n2 n3 n4 hfz3 hce3 hcT hw3 hw4 hout4 hgr4 hrow4 n5 n6 n7 hne
                  go_wp2_with (first | rw [HW3.out] | rw [HW4.out])
                  go_roundw
                  case measure => simp [intOf]; have := HLT.out; omega
                  case rel =>
                    obtain ⟨n4, n5, n6, n7⟩ := HN.out
                    have hrest := HRest.out
                    rw [if_pos rfl] at hrest
                    refine ⟨n + 1, dm, ll.set T ⟨upc, ujob, u0, u1, u2, false, uo⟩, T, by go_num, rfl, (show Hid _ from ⟨n6, n4, ?_, HT.out.apart, n7, HLD.out, by rw [List.length_set]; exact HT.out.llen, HFD.out.1, fit_set HT.out.lfit T HFD.out.2, hrest, by omega, by have := HLT.out; omega⟩)⟩
                    rw [leftW_same hTl (by rw [← HX.out]) rfl]
                    exact n5
              · have hdz : (de != 0) = true := by rw [bne_iff_ne]; exact hde
                have hR := HRest.out
                rw [if_neg hde] at hR
                have HRR := Lib.hid hR
                have HDE := Lib.hid hde
                clear hR hde
                go_wp2_with fail
                go_ret2
                rw [← HRR.out]
                refine ⟨⟨_, dm, rfl, ?_, fun h => absurd h HDE.out⟩, ?_⟩
                · exact own_next HO2.out ((Below.refl _ _).alloc (Nat.le_refl _) _)
                · exact (HT.out.grown.trans HG2.out).trans (grown_below ((Below.refl _ _).alloc (Nat.le_refl _) _) _)
end Go.Proofs.Ytocepdhjkhhpfaa
namespace Go.Proofs.Ytocepdhjkhhpfaa
set_option maxRecDepth 100000
set_option linter.unusedVariables false
set_option linter.unusedSimpArgs false
open Go.RowKit Go.Sort

theorem runA_len (at0 : Int) (picks : List Int) : ∀ (f n : Nat) (m : List Int) (l : List Wk) (last : Int), (runA at0 picks f n m l last).1.length = m.length ∧ (runA at0 picks f n m l last).2.1.length = l.length := by
  intro f
  induction f with
  | zero => intro n m l last; unfold runA; split <;> exact ⟨rfl, rfl⟩
  | succ f ih =>
    intro n m l last
    by_cases h : manyP (leftW l) = 0
    · rw [runA_done _ _ _ _ _ _ _ h]; exact ⟨rfl, rfl⟩
    · rw [runA_step _ _ _ _ _ _ _ h rfl rfl]
      split
      · obtain ⟨h1, h2⟩ := ih (n + 1) _ (l.set (nextN picks n (leftW l) last) (stepW at0 m (l.getD (nextN picks n (leftW l) last) deadW)).2.1) ((nextN picks n (leftW l) last : Nat) : Int)
        exact ⟨h1.trans (stepW_len _ _ _), by rw [h2, List.length_set]⟩
      · exact ⟨rfl, rfl⟩
/-- what Run tells -/
def RunR (d : List Int × List Wk × Int) (w : World) (r : Ending) (w' : World) : Prop :=
  ∃ A2 c2 L2 d2, r = .returned (.tuple #[.slice A2 d.1.length c2, .slice L2 d.2.1.length d2, .int .i64 d.2.2]) ∧ Now w' A2 d.1 ∧ NowWk w' L2 d.2.1 ∧ Below w.heap.size w w'
set_option maxHeartbeats 8000000 in
theorem runF_any (A P L : Option Addr) (m picks : List Int) (l : List Wk) (c cP cL : Nat) (at0 : Int) (w : World) (hR : Now w A m) (hl : m.length ≤ 1000000) (hm : ∀ x ∈ m, WdI x) (hP : InL w P picks cP) (hL : NowWk w L l) (hF : ∀ j, j < l.length → FitW (l.getD j deadW)) (ha1 : 0 ≤ at0) (ha2 : at0 ≤ 1099511627776) :
    Calls Try.prog 16 #[.slice A m.length c, .int .i64 at0, .slice P picks.length cP, .slice L l.length cL] w (RunR (runW at0 picks m l) w) := by
  obtain ⟨D, hD⟩ : ∃ D, D = runW at0 picks m l := ⟨_, rfl⟩
  rw [← hD]
  by_cases h64 : 64 < l.length
  · have hd : D = (m, l, 1) := by rw [hD]; unfold runW; rw [if_pos h64]
    subst hd
    have hz : (64 : Int) < (l.length : Int) := by omega
    have HR := Lib.hid hR
    have HL := Lib.hid hL
    clear hD hR hL hP hm hF
    go_enter Try.func16, Try.ntmps16
    go_wp2_with fail
    go_ret3
    exact ⟨A, c, L, cL, rfl, HR.out, HL.out, Below.refl _ _⟩
  · have hz : ¬ (64 : Int) < (l.length : Int) := by omega
    obtain ⟨E, hE⟩ : ∃ E, E = runA at0 picks 100000 0 m l (-1) := ⟨_, rfl⟩
    have hd : D = if E.2.2 = 0 then E else (m, l, E.2.2) := by rw [hD, hE]; unfold runW; rw [if_neg h64]
    have hlen := runA_len at0 picks 100000 0 m l (-1)
    rw [← hE] at hlen
    have HD := Lib.hid hd
    have HLen := Lib.hid hlen
    have hli := listOf_any m A c at0 w hR hl
    have hmf : ∀ (fn : Fn) (first cap : Array Value) (W : World), (Instr.makeFunc fn first cap).run Try.prog W = .ok (.func fn first cap) W := fun _ _ _ _ => rfl
    have HE := Lib.hid hE
    have HR := Lib.hid hR
    have HL := Lib.hid hL
    have HP := Lib.hid hP
    have HM := Lib.hid hm
    have HF := Lib.hid hF
    clear hD hd hlen hE hR hL hP hm hF
    go_enter Try.func16, Try.ntmps16
    go_wp2_with fail
    refine hli.mono ?_
    rintro e w1 ⟨A1, c1, b, rfl, hO1, hM1, hb1, hB1⟩
    have hal := (Below.refl w1.heap.size w1).alloc (Nat.le_refl _) (.cells #[.slice A1 m.length c1, .int .i64 at0, .map (some b)] 68)
    have hrow := heap_alloc_new w1 (.cells #[.slice A1 m.length c1, .int .i64 at0, .map (some b)] 68)
    have hsz : w1.heap.size < (w1.alloc (.cells #[.slice A1 m.length c1, .int .i64 at0, .map (some b)] 68)).heap.size := by simp
    obtain ⟨w2, hw2⟩ : ∃ w2, w1.alloc (.cells #[.slice A1 m.length c1, .int .i64 at0, .map (some b)] 68) = w2 := ⟨_, rfl⟩
    rw [hw2] at hal hrow hsz
    have hO2 := own_next hO1 hal
    have hB2 := Qt.more hB1 hB1.size hal
    have hgrow : ∀ W, w2.grownBy W (Value.slice A1 m.length c1).ownBlock → Below w.heap.size w W := fun W h => hB2.grown h hB2.size (fun k e => (World.ownsRow.lt hO2 k e).1)
    have htog := together_any P picks cP L l cL at0 m A1 c1 b w2 (fun W h => HP.out.below (hgrow W h)) (HL.out.below hB2) (by omega) HF.out ha1 ha2 HM.out hB2.size hO2 hl (mapOk_below hM1 hal)
    have hs1 := hB1.size
    have hnq : ∀ W, w2.grownBy W (Value.slice A1 m.length c1).ownBlock → W.heap[w1.heap.size]? = some (.cells #[.slice A1 m.length c1, .int .i64 at0, .map (some b)] 68 (0, 0)) := fun W h => (h.block _ hsz (fun e => by
      have := (World.ownsRow.lt hO1 w1.heap.size e.symm).2
      omega)).trans hrow
    have HG := Lib.hid hgrow
    have HNQ := Lib.hid hnq
    have HW2 := Lib.hid hw2
    have q0 : w2.cell? ⟨w1.heap.size, 0, none⟩ = some (.slice A1 m.length c1) := by rw [Lib.cell_of_heap hrow]; rfl
    have q1 : w2.cell? ⟨w1.heap.size, 1, none⟩ = some (.int .i64 at0) := by rw [Lib.cell_of_heap hrow]; rfl
    have q2 : w2.cell? ⟨w1.heap.size, 2, none⟩ = some (.map (some b)) := by rw [Lib.cell_of_heap hrow]; rfl
    clear hli hO1 hM1 hb1 hB1 hal hrow hsz hw2 hO2 hB2 hgrow hnq
    go_wp2_with (rw [HW2.out])
    refine htog.mono ?_
    rw [← HE.out]
    rintro e w3 ⟨⟨v2, m3, rfl, hO3, hfin⟩, hg3⟩
    have hB3 := HG.out w3 hg3
    have q0 : w3.cell? ⟨w1.heap.size, 0, none⟩ = some (.slice A1 m.length c1) := by rw [Lib.cell_of_heap (HNQ.out w3 hg3)]; rfl
    have HB3 := Lib.hid hB3
    have HO3 := Lib.hid hO3
    have HFin := Lib.hid hfin
    clear htog hg3 hB3 hO3 hfin q1 q2
    by_cases he : E.2.2 = 0
    · have hez : (E.2.2 != 0) = false := by rw [he]; rfl
      obtain ⟨h1, h2⟩ := HFin.out he
      obtain ⟨L2, d2, hv2, _, hN2⟩ := h2.slice
      have hd := HD.out
      rw [if_pos he] at hd
      have HH := Lib.hid (And.intro h1 hN2)
      have HDD := Lib.hid hd
      have HE0 := Lib.hid he
      subst hv2
      clear h1 h2 hN2 hd he
      go_wp2_with fail
      go_ret3
      rw [HDD.out]
      obtain ⟨h1, h2⟩ := HH.out
      obtain ⟨A9, c9, hv, _, hN⟩ := own_slice HO3.out
      subst h1
      injection hv with e1 e2 e3
      rw [← e1] at hN
      have hl1 : m.length = E.1.length := HLen.out.1.symm
      refine ⟨A1, c1, L2, d2, ?_, hN, h2, HB3.out⟩
      rw [← hl1, HE0.out]
      rfl
    · have hez : (E.2.2 != 0) = true := by rw [bne_iff_ne]; exact he
      have hd := HD.out
      rw [if_neg he] at hd
      have HDD := Lib.hid hd
      clear hd he
      go_wp2_with fail
      go_ret3
      rw [HDD.out]
      exact ⟨A, c, L, cL, rfl, HR.out.below HB3.out, HL.out.below HB3.out, HB3.out⟩
end Go.Proofs.Ytocepdhjkhhpfaa
