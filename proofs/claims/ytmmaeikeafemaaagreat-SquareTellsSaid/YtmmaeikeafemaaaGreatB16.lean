/-
  Texts that the claims of this seat share, part 16.
-/
import Derived.Test.YtmmaeikeafemaaaGreatB06
import Derived.Test.YtmmaeikeafemaaaGreatB12
import Derived.Test.YtmmaeikeafemaaaGreatB05
import Derived.Test.YtmmaeikeafemaaaGreatB15
import Derived.Test.YtmmaeikeafemaaaGreatRows
import Derived.ProofKit
import Derived.OpenShut
import Derived.ChangeOld
import Derived.Deep.Slices
import Derived.Deep.Fields
import Derived.Maps.RangeWalk
import Derived.Maps.Views
import Derived.DeepKeys4
import Derived.Outline
import Derived.Deep.DeepFit
import Derived.Test.YtmmaeikeafemaaaGreatB02
import Derived.Laws.ResultCell
import Derived.BigRegion
import Derived.Lib.AppendZerosOnto
import Derived.Laws.CopyRow
import Derived.Test.YtmmaeikeafemaaaGreatB01
set_option linter.unusedVariables false
set_option linter.unusedSimpArgs false
namespace Go.Proofs.YtmmaeikeafemaaaGreat.Cel
set_option linter.unusedVariables false
set_option linter.unusedSimpArgs false
open Go.RowKit Go.Sort

theorem refIn_yes (p : Int × Int) (h : inB p = true) (w : World) : Calls Tryz.prog 63 #[.agg #[.int .i64 p.1, .int .i64 p.2]] w fun e w' => e = .returned (.bool true) ∧ Below w.heap.size w w' := by
  have := in_any p w; rw [h] at this; exact this
theorem refIn_no (p : Int × Int) (h : inB p = false) (w : World) : Calls Tryz.prog 63 #[.agg #[.int .i64 p.1, .int .i64 p.2]] w fun e w' => e = .returned (.bool false) ∧ Below w.heap.size w w' := by
  have := in_any p w; rw [h] at this; exact this

set_option maxHeartbeats 1000000 in
set_option maxRecDepth 100000 in
theorem refRight_any (A : Option Addr) (l : List (Int × Int)) (c : Nat) (w : World) (hR : Rd w w.heap.size A l) (hl : l.length ≤ 1000000) (hc : l.length ≤ c) :
    Calls Tryz.prog 30 #[.slice A l.length c] w fun e w' => e = .returned (.bool (rightB l)) ∧ Below w.heap.size w w' := by
  generalize hr : rightB l = r
  have HR := Lib.hid hr
  clear hr
  go_enter Tryz.func30, Tryz.ntmps30
  go_wp2
  go_loopw [3] (fun i wr => ∃ k : Nat, k ≤ l.length ∧ i = .int .i64 k ∧ Hid (∀ j, j < k → okAt l j = true) ∧ Below w.heap.size w wr) (fun i _ => l.length - (intOf i).toNat)
  case atStart => exact ⟨0, Nat.zero_le _, rfl, fun j hj => absurd hj (Nat.not_lt_zero j), Below.refl _ _⟩
  case round =>
    obtain ⟨k, hk, rfl, HK, hb⟩ := hrel
    by_cases hlt : k < l.length
    · have hltz : (k : Int) < (l.length : Int) := by omega
      obtain ⟨b, off, rfl, hbB, hcell⟩ := hR.at_ (by omega)
      obtain ⟨⟨x, y⟩, hxy⟩ : ∃ p, p = l.getD k (0, 0) := ⟨_, rfl⟩
      have a0 := (hcell k hlt).1
      have a1 := (hcell k hlt).2
      rw [← hxy] at a0 a1
      simp only at a0 a1
      have k0 := Qt.cell_in (Qt.keep hb a0)
      have k1 := Qt.cell_in (Qt.keep hb a1)
      have HXY := Lib.hid hxy
      clear hxy a0 a1
      by_cases hin : inB (x, y) = true
      · rcases Nat.eq_zero_or_pos k with hk0 | hk0
        · clear hcell
          have hkd : decide (0 < k) = false := by simp; omega
          have hkd2 : decide ((0 : Int) < (k : Int)) = false := by simp; omega
          have HOK : Hid (okAt l k = true) := by show okAt l k = true; unfold okAt; rw [← HXY.out, hin, hk0]; rfl
          clear hk0
          go_wp2
          refine Qt.below_all (by kernel_rfl) (by kernel_rfl) ?_
          repeat (go_big_quiet_step (first | (go_at_call 63; exact Qt.at_call (refIn_yes (x, y) hin))))
          refine wpQuiet_nil ?_
          intro w1 hb1
          go_wp2
          go_roundw
          case measure => simp [intOf]; omega
          case rel =>
            refine ⟨k + 1, by omega, by go_num, (show Hid _ from fun j hj => ?_), Qt.more hb hb.size hb1⟩
            by_cases hjk : j = k
            · subst hjk; exact HOK.out
            · exact HK.out j (by omega)
        · obtain ⟨kp, rfl⟩ : ∃ kp, k = kp + 1 := ⟨k - 1, by omega⟩
          obtain ⟨⟨px, py⟩, hp⟩ : ∃ p, p = l.getD kp (0, 0) := ⟨_, rfl⟩
          have p0 := (hcell kp (by omega)).1
          have p1 := (hcell kp (by omega)).2
          rw [← hp] at p0 p1
          simp only at p0 p1
          have k2 := Qt.cell_in (Qt.keep hb p0)
          have k3 := Qt.cell_in (Qt.keep hb p1)
          have HP := Lib.hid hp
          clear hp hcell p0 p1
          cases hcm : lessB (px, py) (x, y)
          · have HNO : Hid (rightB l = false) := rightB_no hlt (by
              unfold okAt
              rw [← HXY.out, hin, Nat.add_sub_cancel, ← HP.out]
              have : ¬ cmpP (px, py) (x, y) < 0 := by rw [cmpP_neg, hcm]; exact Bool.false_ne_true
              simpa using this)
            go_wp2
            refine Qt.below_all (by kernel_rfl) (by kernel_rfl) ?_
            repeat (go_big_quiet_step (first | (go_at_call 63; exact Qt.at_call (refIn_yes (x, y) hin)) | (go_at_call 58; exact Qt.at_call (less_no (px, py) (x, y) hcm))))
            refine wpQuiet_nil ?_
            intro w1 hb1
            go_wp2
            go_ret
            exact ⟨by rw [← HR.out, HNO.out]; rfl, Qt.more hb hb.size hb1⟩
          · have HOK : Hid (okAt l (kp + 1) = true) := by
              show okAt l (kp + 1) = true
              unfold okAt
              rw [← HXY.out, hin, Nat.add_sub_cancel, ← HP.out]
              have : cmpP (px, py) (x, y) < 0 := by rw [cmpP_neg, hcm]
              simpa using this
            go_wp2
            refine Qt.below_all (by kernel_rfl) (by kernel_rfl) ?_
            repeat (go_big_quiet_step (first | (go_at_call 63; exact Qt.at_call (refIn_yes (x, y) hin)) | (go_at_call 58; exact Qt.at_call (less_yes (px, py) (x, y) hcm))))
            refine wpQuiet_nil ?_
            intro w1 hb1
            go_wp2
            go_roundw
            case measure => simp [intOf]; omega
            case rel =>
              refine ⟨kp + 1 + 1, by omega, by go_num, (show Hid _ from fun j hj => ?_), Qt.more hb hb.size hb1⟩
              by_cases hjk : j = kp + 1
              · subst hjk; exact HOK.out
              · exact HK.out j (by omega)
      · have hin' : inB (x, y) = false := by simpa using hin
        have HNO : Hid (rightB l = false) := rightB_no hlt (by unfold okAt; rw [← HXY.out, hin']; rfl)
        clear hcell hin
        go_wp2
        refine Qt.below_all (by kernel_rfl) (by kernel_rfl) ?_
        repeat (go_big_quiet_step (first | (go_at_call 63; exact Qt.at_call (refIn_no (x, y) hin'))))
        refine wpQuiet_nil ?_
        intro w1 hb1
        go_wp2
        go_ret
        exact ⟨by rw [← HR.out, HNO.out]; rfl, Qt.more hb hb.size hb1⟩
    · have hltz : ¬ (k : Int) < (l.length : Int) := by omega
      have hkl : k = l.length := by omega
      by_cases hlong : 2000 < l.length
      · have E := Lib.hid (rightB_long hlong)
        clear HK hkl
        go_wp2
        go_ret
        exact ⟨by rw [← HR.out, E.out]; simp; omega, hb⟩
      · have E : Hid (rightB l = true) := rightB_yes (by omega) fun j hj => HK.out j (by omega)
        clear HK hkl
        go_wp2
        go_ret
        exact ⟨by rw [← HR.out, E.out]; simp; omega, hb⟩

end Go.Proofs.YtmmaeikeafemaaaGreat.Cel
namespace Go.Proofs.YtmmaeikeafemaaaGreat.Cel

/-- what Of answers: an error's number, and a list -/
def ofR (l : List (Int × Int)) : Int × List (Int × Int) :=
  if (l.any fun p => !inB p) = true then (2, []) else if 2000 < (setL l).length then (3, []) else (0, setL l)
/-! ### where a generation reaches -/

end Go.Proofs.YtmmaeikeafemaaaGreat.Cel
namespace Go.Proofs.YtmmaeikeafemaaaGreat.Cel
open Go.ChangeShapes Go.WideShapes Go.ChangeAt Go.RowKit Go.Deep

theorem exists_list {n : Nat} {Q : Nat → Int × Int → Prop} (h : ∀ i, i < n → ∃ p, Q i p) : ∃ l : List (Int × Int), l.length = n ∧ ∀ i, i < n → Q i (l.getD i (0, 0)) := by
  induction n with
  | zero => exact ⟨[], rfl, fun i hi => absurd hi (Nat.not_lt_zero i)⟩
  | succ n ih =>
    obtain ⟨l, hl, hq⟩ := ih fun i hi => h i (by omega)
    obtain ⟨p, hp⟩ := h n (by omega)
    refine ⟨l ++ [p], by simp [hl], fun i hi => ?_⟩
    by_cases hin : i < n
    · rw [List.getD_eq_getElem?_getD, List.getElem?_append_left (by omega), ← List.getD_eq_getElem?_getD]
      exact hq i hin
    · have : i = n := by omega
      subst this
      rw [List.getD_eq_getElem?_getD, List.getElem?_append_right (by omega), hl]
      simpa using hp

section
variable {H : Type} {enc : TypeId × Value → H} {w : World} {base : Nat} {spare : Nat → Bool} {held : Bool}

/-- An element of two cells, each a number. -/
def TwoInts (P : Program) (e : TypeId) : Prop := P.cellsOf e = 2 ∧ ∀ {H : Type} {enc : TypeId × Value → H} {w : World} {base : Nat} {spare : Nat → Bool} {held : Bool} (n : Nat) (cs : List Value) (y : DataW H × List MemPlace), DataW.trod enc P w base spare held n e cs = some y → ∃ a b, cs = [.int .i64 a, .int .i64 b] ∧ I64 a ∧ I64 b

theorem i64_of_wf {a : Int} (h : (Lit.int .i64 a).wf = true) : I64 a := by
  have : IntKind.i64.min ≤ a ∧ a ≤ IntKind.i64.max := by simpa [Lit.wf] using h
  simpa [I64, IntKind.min, IntKind.max, IntKind.signed, IntKind.bits] using this

theorem two_array {P : Program} {e t : TypeId} (he : P.underlying e = some (.array 2 t)) (ht : P.underlying t = some (.int .i64)) (h2 : P.cellsOf e = 2) (h1 : P.cellsOf t = 1) : TwoInts P e := by
  refine ⟨h2, fun n cs y h => ?_⟩
  obtain ⟨xs, m, _, _, hlen, hxl, hx⟩ := DataW.trod_array he h
  rw [h2] at hlen
  obtain ⟨a, b, rfl⟩ : ∃ a b, cs = [a, b] := by
    match cs, hlen with
    | [a, b], _ => exact ⟨a, b, rfl⟩
  have x0 := hx 0 (by omega)
  have x1 := hx 1 (by omega)
  rw [h1] at x0 x1
  rw [List.getElem?_eq_getElem (by omega)] at x0 x1
  obtain ⟨u, hu, _, wu⟩ := DataW.trod_int ht x0
  obtain ⟨v, hv, _, wv⟩ := DataW.trod_int ht x1
  simp at hu hv
  exact ⟨u, v, by rw [hu, hv], i64_of_wf wu, i64_of_wf wv⟩

theorem two_struct {P : Program} {e t : TypeId} {f0 f1 : Field} (he : P.underlying e = some (.struct #[f0, f1])) (h0 : f0.type = t) (h1 : f1.type = t) (ht : P.underlying t = some (.int .i64)) (hone : oneCellFields P #[f0, f1] = true) (h2 : P.cellsOf e = 2) : TwoInts P e := by
  refine ⟨h2, fun n cs y h => ?_⟩
  obtain ⟨ys, m, hn, hy, hlen, hyl, hf⟩ := DataW.trod_struct he h
  rw [h2] at hlen
  obtain ⟨a, b, rfl⟩ : ∃ a b, cs = [a, b] := by
    match cs, hlen with
    | [a, b], _ => exact ⟨a, b, rfl⟩
  obtain ⟨o0, k0⟩ := hone_of hone 0 f0 rfl
  obtain ⟨o1, k1⟩ := hone_of hone 1 f1 rfl
  have x0 := hf 0 f0 rfl
  have x1 := hf 1 f1 rfl
  have hyl' : ys.length = 2 := by simpa using hyl
  rw [o0, k0, h0, List.getElem?_eq_getElem (by omega)] at x0
  rw [o1, k1, h1, List.getElem?_eq_getElem (by omega)] at x1
  obtain ⟨u, hu, _, wu⟩ := DataW.trod_int ht x0
  obtain ⟨v, hv, _, wv⟩ := DataW.trod_int ht x1
  simp at hu hv
  exact ⟨u, v, by rw [hu, hv], i64_of_wf wu, i64_of_wf wv⟩

/-- A slice of such pairs that came in. -/
theorem open_pairs {P : Program} {t e : TypeId} {fuel : Nat} {a0 : Option Addr} {len0 cap0 : Nat} {x : DataW H × List MemPlace} (ht : P.underlying t = some (.slice e)) (he : TwoInts P e) (h : DataW.trod enc P w base spare held fuel t [.slice a0 len0 cap0] = some x) :
    ∃ l : List (Int × Int), l.length = len0 ∧ len0 ≤ cap0 ∧ cap0 ≤ maxLen ∧ Rd w w.heap.size a0 l ∧ ∀ p ∈ l, I64 p.1 ∧ I64 p.2 := by
  rcases open_slice ht h with ⟨hcs, _⟩ | ⟨a, len, cap, m, n, D, Pl, hcs, hb, hl, hm, hmm, _, hi⟩
  · simp at hcs
    obtain ⟨rfl, rfl, rfl⟩ := hcs
    exact ⟨[], rfl, Nat.le_refl _, by simp [maxLen], Rd.nil _ _ _, fun p hp => by cases hp⟩
  · simp at hcs
    obtain ⟨rfl, rfl, rfl⟩ := hcs
    have hlm : len0 ≤ m := by rw [hmm]; split <;> omega
    have hq : ∀ i, i < len0 → ∃ p : Int × Int, (w.cell? (a.add (i * 2)) = some (.int .i64 p.1) ∧ w.cell? ((a.add (i * 2)).add 1) = some (.int .i64 p.2)) ∧ I64 p.1 ∧ I64 p.2 := by
      intro i hi'
      obtain ⟨cs', hc, ht'⟩ := hi i (by omega)
      rw [he.1] at hc
      obtain ⟨u, v, rfl, wu, wv⟩ := he.2 _ _ _ ht'
      obtain ⟨_, _, hat⟩ := World.cells?_some hc
      have h0 := hat 0 (by omega)
      have h1 := hat 1 (by omega)
      refine ⟨(u, v), ⟨?_, ?_⟩, wu, wv⟩
      · simpa [Addr.add] using h0
      · simpa using h1
    obtain ⟨l, hll, hlq⟩ := exists_list hq
    refine ⟨l, hll, hl, hm, fun j hj => ?_, fun p hp => ?_⟩
    · obtain ⟨⟨c0, c1⟩, _⟩ := hlq j (by omega)
      obtain ⟨b, off, spot⟩ := a
      have hspot : spot = none := by
        have := (hlq 0 (by omega)).1.1
        simpa [Addr.add] using World.cell?_spot this
      subst hspot
      rw [Addr.add_lit] at c0 c1
      rw [Addr.add_lit] at c1
      exact ⟨b, off, rfl, block_lt_of_cell c0, c0, c1⟩
    · obtain ⟨j, hj, rfl⟩ := List.getElem_of_mem hp
      have := (hlq j (by omega)).2
      rwa [List.getD_eq_getElem?_getD, List.getElem?_eq_getElem hj] at this
end

theorem twoArr : TwoInts Tryz.prog 60 := two_array Tryz.underlying60 Tryz.underlying3 (by kernel_rfl) (by kernel_rfl)
theorem own : ownKnob Tryz.prog.godebug = none := by kernel_rfl
theorem laidOut : laidOutB Tryz.prog = true := by kernel_rfl

end Go.Proofs.YtmmaeikeafemaaaGreat.Cel
namespace Go.Proofs.YtmmaeikeafemaaaGreat.Cel
open Go.RowKit Go.Sort

theorem fl_cell1 (l : List (Int × Int)) : ∀ u ∈ fl l, u.oneCell' = true := by
  intro u hu
  simp only [fl, List.mem_flatMap] at hu
  obtain ⟨c, _, hu⟩ := hu
  simp at hu
  rcases hu with rfl | rfl <;> rfl
theorem fl_drop (l : List (Int × Int)) (k : Nat) : fl (l.drop k) = (fl l).drop (k * 2) := by
  have h1 : fl l = fl (l.take k) ++ fl (l.drop k) := by rw [← fl_append, List.take_append_drop]
  by_cases hk : k ≤ l.length
  · conv => rhs; rw [h1]
    have h2 : (fl (l.take k)).drop (k * 2) = [] := List.drop_eq_nil_of_le (by rw [length_fl, List.length_take]; omega)
    rw [List.drop_append_of_le_length (by rw [length_fl, List.length_take]; omega), h2, List.nil_append]
  · rw [List.drop_eq_nil_of_le (by omega), List.drop_eq_nil_of_le (by rw [length_fl]; omega)]; rfl

/-- The cells from place k on, where Go's 's[k:]' looks for them. -/
theorem Row.tail {w : World} {B T g n cap : Nat} {l : List (Int × Int)} (h : Row w B T g n cap l) (k : Nat) : ∀ j u, (fl (l.drop k))[j]? = some u → w.cell? ((⟨g, k * 2, none⟩ : Addr).add j) = some u := by
  intro j u hu
  rw [fl_drop, List.getElem?_drop] at hu
  have hj : k * 2 + j < n * 2 := by
    have := (List.getElem?_eq_some_iff.1 hu).1
    rwa [length_fl, h.1] at this
  rw [Addr.add_lit, World.ownsRow.cellAt h.2 _ hj]
  exact hu

end Go.Proofs.YtmmaeikeafemaaaGreat.Cel
namespace Go.Proofs.YtmmaeikeafemaaaGreat.Cel
open Go.RowKit Go.Sort

theorem right_no {A : Option Addr} {l : List (Int × Int)} {c : Nat} {w : World} (hR : Rd w w.heap.size A l) (hl : l.length ≤ 1000000) (hc : l.length ≤ c) (h : rightB l = false) :
    Calls Tryz.prog 60 #[.slice A l.length c] w fun e w' => e = .returned (.bool false) ∧ Below w.heap.size w w' := by
  have := right_any A l c w hR hl hc; rw [h] at this; exact this

end Go.Proofs.YtmmaeikeafemaaaGreat.Cel
namespace Go.Proofs.YtmmaeikeafemaaaGreat.Cel
set_option linter.unusedVariables false
set_option linter.unusedSimpArgs false
open Go.RowKit Go.Sort
open Go.Maps (Keyed)

/-- an answer of a list and an error's number -/
def Ans (w : World) (r : Int × List (Int × Int)) (e : Ending) (w' : World) : Prop := ∃ v, e = .returned (.tuple #[v, .int .i64 r.1]) ∧ Reads w' v r.2 ∧ Below w.heap.size w w'

theorem Ans.nil {w w' : World} (n : Int) (hb : Below w.heap.size w w') : Ans w (n, []) (.returned (.tuple #[.slice none 0 0, .int .i64 n])) w' :=
  ⟨_, rfl, ⟨none, 0, rfl, Nat.le_refl _, Rd.nil _ _ _⟩, hb⟩
theorem Ans.after {w w1 w' : World} {r : Int × List (Int × Int)} {e : Ending} (h : Ans w1 r e w') (hb : Below w.heap.size w w1) : Ans w r e w' := by
  obtain ⟨v, he, hr, hb'⟩ := h
  exact ⟨v, he, hr, Qt.more hb hb.size hb'⟩

end Go.Proofs.YtmmaeikeafemaaaGreat.Cel
namespace Go.Proofs.YtmmaeikeafemaaaGreat.Cel
set_option linter.unusedVariables false
set_option linter.unusedSimpArgs false
open Go.RowKit Go.Sort

theorem ofR_out {l : List (Int × Int)} {k : Nat} (hk : k < l.length) (h : inB (l.getD k (0, 0)) = false) : ofR l = (2, []) := by
  unfold ofR
  rw [if_pos]
  exact List.any_eq_true.2 ⟨_, getD_mem hk, by rw [h]; rfl⟩
theorem ofR_in {l : List (Int × Int)} (h : ∀ j, j < l.length → inB (l.getD j (0, 0)) = true) : ofR l = if 2000 < (setL l).length then (3, []) else (0, setL l) := by
  unfold ofR
  rw [if_neg]
  rw [List.any_eq_true]
  rintro ⟨p, hp, e⟩
  obtain ⟨j, hj, he⟩ := List.getElem_of_mem hp
  have := h j hj
  rw [List.getD_eq_getElem?_getD, List.getElem?_eq_getElem hj, Option.getD_some, he] at this
  rw [this] at e
  cases e

set_option maxHeartbeats 1000000 in
set_option maxRecDepth 100000 in
theorem refOf_any (A : Option Addr) (l : List (Int × Int)) (c : Nat) (w : World) (hR : Rd w w.heap.size A l) (hl : l.length ≤ 900000) (hc : l.length ≤ c) :
    Calls Tryz.prog 40 #[.slice A l.length c] w (Ans w (ofR l)) := by
  obtain ⟨r, hr⟩ : ∃ r, r = ofR l := ⟨_, rfl⟩
  rw [← hr]
  have HR := Lib.hid hr
  clear hr
  go_enter Tryz.func40, Tryz.ntmps40
  go_wp2
  go_loopw [4] (fun i wr => ∃ k : Nat, k ≤ l.length ∧ i = .int .i64 k ∧ Hid (∀ j, j < k → inB (l.getD j (0, 0)) = true) ∧ Below w.heap.size w wr) (fun i _ => l.length - (intOf i).toNat)
  case atStart => exact ⟨0, Nat.zero_le _, rfl, fun j hj => absurd hj (Nat.not_lt_zero j), Below.refl _ _⟩
  case round =>
    obtain ⟨k, hk, rfl, HK, hb⟩ := hrel
    by_cases hlt : k < l.length
    · have hltz : (k : Int) < (l.length : Int) := by omega
      obtain ⟨b, off, rfl, hbB, hcell⟩ := hR.at_ (by omega)
      obtain ⟨⟨x, y⟩, hxy⟩ : ∃ p, p = l.getD k (0, 0) := ⟨_, rfl⟩
      have a0 := (hcell k hlt).1
      have a1 := (hcell k hlt).2
      rw [← hxy] at a0 a1
      simp only at a0 a1
      have c0 := Qt.keep hb a0
      have c1 := Qt.keep hb a1
      have HXY := Lib.hid hxy
      clear hxy a0 a1 hcell
      cases hin : inB (x, y)
      · have E : Hid (ofR l = (2, [])) := ofR_out hlt (by rw [← HXY.out]; exact hin)
        go_wp2_with (go_at_call 63; refine (refIn_no (x, y) hin _).mono ?_; rintro e w1 ⟨rfl, hb1⟩)
        go_ret2
        rw [HR.out, E.out]
        exact Ans.nil 2 (Qt.more hb hb.size hb1)
      · go_wp2_with (go_at_call 63; refine (refIn_yes (x, y) hin _).mono ?_; rintro e w1 ⟨rfl, hb1⟩)
        go_roundw
        case measure => simp [intOf]; omega
        case rel =>
          refine ⟨k + 1, by omega, by go_num, (show Hid _ from fun j hj => ?_), Qt.more hb hb.size hb1⟩
          by_cases hjk : j = k
          · subst hjk; rw [← HXY.out]; exact hin
          · exact HK.out j (by omega)
    · have hltz : ¬ (k : Int) < (l.length : Int) := by omega
      have E := Lib.hid (ofR_in fun j hj => HK.out j (by omega))
      have HB := Lib.hid hb
      clear hb HK
      go_wp2
      go_loopw [5, 6] (fun v i wr => ∃ k : Nat, k ≤ l.length ∧ i = .int .i64 k ∧ Aside (Reads wr v (setL (l.take k)) ∧ Below w.heap.size w wr)) (fun _ i _ => l.length - (intOf i).toNat)
      case atStart => exact ⟨0, Nat.zero_le _, rfl, ⟨none, 0, rfl, Nat.le_refl _, Rd.nil _ _ _⟩, HB.out⟩
      case round =>
        obtain ⟨k, hk, rfl, HK⟩ := hrel
        obtain ⟨A', c', rfl, hc', hR'⟩ := HK.out.1
        have hlen : (setL (l.take k)).length ≤ k := Nat.le_trans (length_setL _) (by rw [List.length_take]; omega)
        by_cases hlt : k < l.length
        · have hltz : (k : Int) < (l.length : Int) := by omega
          obtain ⟨b, off, rfl, hbB, hcell⟩ := hR.at_ (by omega)
          obtain ⟨⟨x, y⟩, hxy⟩ : ∃ p, p = l.getD k (0, 0) := ⟨_, rfl⟩
          have a0 := (hcell k hlt).1
          have a1 := (hcell k hlt).2
          rw [← hxy] at a0 a1
          simp only at a0 a1
          have c0 := Qt.keep HK.out.2 a0
          have c1 := Qt.keep HK.out.2 a1
          have HT : Hid (setL (l.take (k + 1)) = putL (x, y) (setL (l.take k))) := (show setL (l.take (k + 1)) = putL (x, y) (setL (l.take k)) from by rw [take_snoc hlt, setL_snoc, ← hxy])
          clear hxy a0 a1 hcell
          obtain ⟨s, hs⟩ : ∃ s, s = setL (l.take k) := ⟨_, rfl⟩
          rw [← hs] at hR' hc' hlen HK HT ⊢
          clear hs
          go_wp2_with (go_at_call 24; refine (put_any A' s c' (x, y) _ hR' (by omega) hc').mono ?_; rintro e w1 ⟨v1, rfl, hown, hb1⟩; have HO := Lib.hid hown; have HB1 := Lib.hid hb1; clear hown hb1)
          go_roundw
          case measure => simp [intOf]; omega
          case rel =>
            obtain ⟨A2, c2, e2, h1, h2⟩ := HO.out.rd
            exact ⟨k + 1, by omega, by go_num, ⟨by rw [HT.out]; exact ⟨A2, c2, e2, h1, h2⟩, Qt.more HK.out.2 HK.out.2.size HB1.out⟩⟩
        · have hltz : ¬ (k : Int) < (l.length : Int) := by omega
          obtain rfl : k = l.length := by omega
          rw [List.take_length] at HK hR' hc' hlen ⊢
          by_cases hlong : 2000 < (setL l).length
          · have hz : (2000 : Int) < ((setL l).length : Int) := by omega
            have E2 : Hid (r = (3, [])) := (show r = (3, []) from by rw [HR.out, E.out, if_pos hlong])
            go_wp2
            go_ret2
            rw [E2.out]
            exact Ans.nil 3 HK.out.2
          · have hz : ¬ (2000 : Int) < ((setL l).length : Int) := by omega
            have E2 : Hid (r = (0, setL l)) := (show r = (0, setL l) from by rw [HR.out, E.out, if_neg hlong])
            go_wp2
            go_ret2
            rw [E2.out]
            exact ⟨_, rfl, ⟨A', c', rfl, hc', hR'⟩, HK.out.2⟩

end Go.Proofs.YtmmaeikeafemaaaGreat.Cel
namespace Go.Proofs.YtmmaeikeafemaaaGreat.Cel
open Go.RowKit Go.Sort

def shL (dx dy : Int) (l : List (Int × Int)) : List (Int × Int) := l.map fun c => (c.1 + dx, c.2 + dy)
theorem length_shL (dx dy : Int) (l : List (Int × Int)) : (shL dx dy l).length = l.length := List.length_map _
theorem inB_iff (p : Int × Int) : inB p = true ↔ -1099511627776 ≤ p.1 ∧ p.1 ≤ 1099511627776 ∧ -1099511627776 ≤ p.2 ∧ p.2 ≤ 1099511627776 := by simp [inB]

end Go.Proofs.YtmmaeikeafemaaaGreat.Cel
namespace Go.Proofs.YtmmaeikeafemaaaGreat.Cel
set_option linter.unusedVariables false
set_option linter.unusedSimpArgs false
open Go.RowKit Go.Sort

theorem push_one {w0 w2 w3 : World} {B T : Nat} {v v' : Value} {out : List (Int × Int)} {x y : Int} (hB : B ≤ w2.heap.size) (hb : Below B w0 w2) (hown : Own w2 B T v out) {o : Obj}
    (h3 : w3.ownsRow B T 2 v' (out.length + 1) (fl out ++ [.int .i64 x, .int .i64 y])) (hg : (w2.alloc o).grownBy w3 v.ownBlock) : Own w3 B T v' (out ++ [(x, y)]) ∧ Below B w0 w3 :=
  ⟨own_push h3, (hb.alloc hB _).grown hg (by simp; omega) (fun k e => (World.ownsRow.lt hown k e).1)⟩

end Go.Proofs.YtmmaeikeafemaaaGreat.Cel
namespace Go.Proofs.YtmmaeikeafemaaaGreat
set_option maxRecDepth 100000
set_option linter.unusedVariables false
set_option linter.unusedSimpArgs false
open Go.RowKit Go.Sort

set_option maxHeartbeats 4000000 in
theorem refIn7_any (e : Nat) (he : e ≤ 60) (c : Int × Int) (hx : I64 c.1) (hy : I64 c.2) (w : World) : Calls Tryz.prog 31 #[.int .i64 ((e : Int) + 1), cellV c] w fun r w' => r = .returned (.bool (insideB e c)) ∧ Below w.heap.size w w' := by
  obtain ⟨h1, h2⟩ := pow_bd7 he
  obtain ⟨x, y⟩ := c
  have hal := (Below.refl w.heap.size w).alloc (Nat.le_refl _) (.cells #[.int .i64 x, .int .i64 y] 28)
  have HA := Lib.hid hal
  have HC := clB_new (w := w) (x, y)
  have k0 := HC.c0
  have k1 := HC.c1
  simp only at k0 k1 hx hy
  unfold I64 at hx hy
  have hcase : (¬ -(2 ^ e) ≤ x ∧ insideB e (x, y) = false) ∨ (-(2 ^ e) ≤ x ∧ ¬ x < 2 ^ e ∧ insideB e (x, y) = false) ∨ (-(2 ^ e) ≤ x ∧ x < 2 ^ e ∧ ¬ -(2 ^ e) ≤ y ∧ insideB e (x, y) = false) ∨ (-(2 ^ e) ≤ x ∧ x < 2 ^ e ∧ -(2 ^ e) ≤ y ∧ ¬ y < 2 ^ e ∧ insideB e (x, y) = false) ∨ (-(2 ^ e) ≤ x ∧ x < 2 ^ e ∧ -(2 ^ e) ≤ y ∧ y < 2 ^ e ∧ insideB e (x, y) = true) := by
    unfold insideB
    simp only [decide_eq_false_iff_not, decide_eq_true_eq]
    generalize (2 : Int) ^ e = p at *
    omega
  clear hal HC
  rcases hcase with ⟨a1, a5⟩ | ⟨a1, a2, a5⟩ | ⟨a1, a2, a3, a5⟩ | ⟨a1, a2, a3, a4, a5⟩ | ⟨a1, a2, a3, a4, a5⟩
  all_goals
    rw [a5]
    clear a5
    go_enter Tryz.func31, Tryz.ntmps31
    go_wp2_with fail
    go_ret
    exact ⟨rfl, HA.out⟩

/-- a store in a box that is changed, and a box for what is told -/
structure E7At (w wr : World) (B : Option Addr) (m : List Nd) (d : Nat) (room : Int) : Prop where
  st : StB wr w.heap.size B m d room
  res : wr.heap[w.heap.size + 1]? = some (.cells #[.slice none 0 0, .int .i64 0] 26 (0, 0))
  bel : Below w.heap.size w wr
section
variable {w wr w' : World} {B A2 : Option Addr} {m pl : List Nd} {d c2 : Nat} {room : Int}
theorem E7At.below (h : E7At w wr B m d room) (hb : Below wr.heap.size wr w') : E7At w w' B m d room := ⟨h.st.below hb, (hb.block _ (lt_heap6 h.res)).trans h.res, Qt.more h.bel h.bel.size hb⟩
theorem E7At.s0 (h : E7At w wr B m d room) : wr.cell? ⟨w.heap.size, 0, none⟩ = some (.slice B m.length d) := h.st.s0
theorem E7At.s1 (h : E7At w wr B m d room) : wr.cell? ⟨w.heap.size, 1, none⟩ = some (.int .i64 room) := h.st.s1
theorem E7At.f0 (h : E7At w wr B m d room) : wr.frozen? ⟨w.heap.size, 0, none⟩ = false := h.st.f0
theorem E7At.f1 (h : E7At w wr B m d room) : wr.frozen? ⟨w.heap.size, 1, none⟩ = false := h.st.f1
theorem E7At.r0 (h : E7At w wr B m d room) : wr.cell? ⟨w.heap.size + 1, 0, none⟩ = some (.slice none 0 0) := by rw [Lib.cell_of_heap h.res]; rfl
theorem E7At.r1 (h : E7At w wr B m d room) : wr.cell? ⟨w.heap.size + 1, 1, none⟩ = some (.int .i64 0) := by rw [Lib.cell_of_heap h.res]; rfl
theorem E7At.free (h : E7At w wr B m d room) (j : Nat) : wr.frozen? ⟨w.heap.size + 1, j, none⟩ = false := Lib.frozen_of_heap h.res j
theorem E7At.size (h : E7At w wr B m d room) : w.heap.size + 2 ≤ wr.heap.size := lt_heap6 h.res
/-- a store is told -/
theorem E7At.told (h : E7At w wr B m d room) (hN : NowN wr A2 pl) (u v : Value) : ((wr.setCell ⟨w.heap.size + 1, 0, none⟩ u).setCell ⟨w.heap.size + 1, 1, none⟩ v).heap[w.heap.size + 1]? = some (.cells #[u, v] 26 (0, 0)) ∧ Below w.heap.size w ((wr.setCell ⟨w.heap.size + 1, 0, none⟩ u).setCell ⟨w.heap.size + 1, 1, none⟩ v) ∧ NowN ((wr.setCell ⟨w.heap.size + 1, 0, none⟩ u).setCell ⟨w.heap.size + 1, 1, none⟩ v) A2 pl := by
  have hr := h.res
  refine ⟨?_, (h.bel.setCell (by show _ ≤ _ + 1; omega) _).setCell (by show _ ≤ _ + 1; omega) _, (rdN_told hN hr).more (by simp [World.setCell])⟩
  simp [World.setCell, Array.getElem?_modify, hr]
/-- the box is changed -/
theorem E7At.put (h : E7At w wr B m d room) (hN : NowN wr A2 pl) (hc : pl.length ≤ c2) : E7At w ((wr.setCell ⟨w.heap.size, 0, none⟩ (.slice A2 pl.length c2)).setCell ⟨w.heap.size, 1, none⟩ (.int .i64 room)) A2 pl c2 room := by
  refine ⟨stB_put h.st.row hN hc, ?_, (h.bel.setCell (Nat.le_refl _) _).setCell (Nat.le_refl _) _⟩
  rw [Below.heap_setCell _ _ _ _ (by show w.heap.size + 1 ≠ w.heap.size; omega), Below.heap_setCell _ _ _ _ (by show w.heap.size + 1 ≠ w.heap.size; omega)]
  exact h.res
end
theorem e7_0 {w : World} {A : Option Addr} {l : List Nd} {c : Nat} (hR : RdN w w.heap.size A l) (hc : l.length ≤ c) (room : Int) : E7At w ((w.alloc (.cells #[.slice A l.length c, .int .i64 room] 26)).alloc (.cells #[.slice none 0 0, .int .i64 0] 26)) A l c room := by
  have hb := (Below.refl (w.alloc (.cells #[.slice A l.length c, .int .i64 room] 26)).heap.size (w.alloc (.cells #[.slice A l.length c, .int .i64 room] 26))).alloc (Nat.le_refl _) (.cells #[.slice none 0 0, .int .i64 0] 26)
  have h0 := (Below.refl w.heap.size w).alloc (Nat.le_refl _) (.cells #[.slice A l.length c, .int .i64 room] 26)
  exact ⟨(stB_new hR hc room).below hb, heap_new (by simp), Qt.more h0 h0.size hb⟩
theorem refPut7 {A : Option Addr} {l : List Nd} {c : Nat} {room : Int} (k : Kd) {w : World} (hR : RdN w w.heap.size A l) (hr : Right6 l room) (hc : l.length ≤ c) : Calls Tryz.prog 66 #[.agg #[.slice A l.length c, .int .i64 room], .agg #[.int .i64 k.1, .int .i64 k.2.1, .int .i64 k.2.2.1, .int .i64 k.2.2.2]] w (PutR (put6 l room k) room w) := by
  have := refPut6_any A l c room k w hR hr.small hc (right_bd hr)
  unfold storeV kidsV at this
  exact this

set_option maxHeartbeats 8000000 in
theorem refEmpty7_any (A : Option Addr) (l : List Nd) (c : Nat) (room : Int) (k : Nat) (w : World) (hR : RdN w w.heap.size A l) (hr : Right6 l room) (hc : l.length ≤ c) (hk : k ≤ 42) :
    Calls Tryz.prog 64 #[storeV A l.length c room, .int .i64 ((k : Nat) : Int)] w (PutR (emptyTo l room k) room w) := by
  have HE := Lib.hid (e7_0 hR hc room)
  obtain ⟨z, hz⟩ : ∃ z, z = emptyTo l room k := ⟨_, rfl⟩
  rw [← hz]
  have HZ := Lib.hid hz
  have HR := Lib.hid hr
  clear hz hr hR
  unfold storeV
  go_enter Tryz.func64, Tryz.ntmps64
  go_wp2_with fail
  generalize (w.alloc (.cells #[.slice A l.length c, .int .i64 room] 26)).alloc (.cells #[.slice none 0 0, .int .i64 0] 26) = wx at *
  go_loopw [7, 8] (fun p i wr => ∃ (j : Nat) (m : List Nd) (q : Int) (B : Option Addr) (d : Nat), j ≤ k ∧ p = .int .i64 q ∧ i = .int .i64 j ∧ Hid (E7At w wr B m d room ∧ emptyTo l room j = (m, q, 0))) (fun _ i _ => k - (intOf i).toNat)
  case atStart => exact ⟨0, l, 0, A, c, Nat.zero_le _, rfl, rfl, HE.out, rfl⟩
  case round =>
    obtain ⟨j, m, q, B, d, hj, rfl, rfl, HH⟩ := hrel
    obtain ⟨H, hem⟩ := HH.out
    have HEM := Lib.hid hem
    have hm6 : Right6 m room := by
      have := emptyTo_right HR.out j
      rw [hem] at this
      exact this
    have c0 := H.s0
    have c1 := H.s1
    by_cases hlt : j < k
    · have hltz : (j : Int) < (k : Int) := by omega
      have hcall := refPut7 (q, q, q, q) H.st.rd hm6 H.st.cap
      have hnext : emptyTo l room (j + 1) = put6 m room (q, q, q, q) := by rw [emptyTo, hem, if_pos rfl]
      obtain ⟨pp, hpp⟩ : ∃ pp, pp = put6 m room (q, q, q, q) := ⟨_, rfl⟩
      rw [← hpp] at hcall hnext
      have HNX := Lib.hid hnext
      have HB := Lib.hid H
      clear hpp hm6 hnext HH H hem
      go_wp2_with fail
      refine hcall.mono ?_
      rintro e w2 ⟨v, rfl, ⟨A2, c2, rfl, hc2, hR2⟩, hb2⟩
      obtain ⟨pl, pn, pe⟩ := pp
      simp only at hR2 hc2
      have hb3 := (Below.refl w2.heap.size w2).alloc (Nat.le_refl _) (.cells #[.slice A2 pl.length c2, .int .i64 room] 26)
      have HD := Lib.hid ((HB.out.below hb2).below hb3)
      have HN := stB_new hR2 hc2 room
      have n0 := HN.s0
      have n1 := HN.s1
      have HNR := Lib.hid HN.rd
      have g0 := HD.out.s0
      have g1 := HD.out.s1
      have f0 := HD.out.f0
      have f1 := HD.out.f1
      clear hcall hb2 hb3 hR2 HB c0 c1 HN
      by_cases hpe : pe = 0
      · subst hpe
        have HP := Lib.hid (HD.out.put HNR.out hc2)
        clear HD HNR
        go_wp2_with fail
        go_roundw
        case measure => simp [intOf]; omega
        case rel => exact ⟨j + 1, pl, pn, A2, c2, by omega, rfl, by go_num, HP.out, HNX.out⟩
      · have hstop := emptyTo_stop (l := l) (room := room) (j := j + 1) (by rw [HNX.out]; exact hpe) (k - (j + 1))
        have hpn : pn = 0 ∧ pl = m := by
          have h2 : put6 m room (q, q, q, q) = (pl, pn, pe) := by have := HNX.out; rwa [emptyTo, HEM.out, if_pos rfl] at this
          have h3 := put_err (l := m) (room := room) (k := (q, q, q, q)) (by rw [h2]; exact hpe)
          rw [h2] at h3
          injection h3 with h4 h5
          injection h5 with h5 _
          exact ⟨h5, h4⟩
        obtain ⟨rfl, rfl⟩ := hpn
        rw [show j + 1 + (k - (j + 1)) = k by omega, HNX.out] at hstop
        have hzz : z = (pl, 0, pe) := by rw [HZ.out, hstop]
        subst hzz
        have r0 := HD.out.r0
        have r1 := HD.out.r1
        have fr0 := HD.out.free 0
        have fr1 := HD.out.free 1
        have ht := HD.out.told HD.out.st.rd (.slice B pl.length d) (.int .i64 room)
        have hcap := HD.out.st.cap
        clear hstop HD HZ HNX HNR HEM
        go_wp2_with fail
        generalize w2.alloc (.cells #[.slice A2 pl.length c2, .int .i64 room] 26) = w3 at *
        generalize (w3.setCell ⟨w.heap.size + 1, 0, none⟩ (.slice B pl.length d)).setCell ⟨w.heap.size + 1, 1, none⟩ (.int .i64 room) = w9 at *
        clear r0 r1 fr0 fr1
        refine bodyPost_ret (results_cell3 rfl _ _ _ _ _ _ _ rfl ht.1 Tryz.underlying26 rfl (by kernel_rfl)) rfl ?_
        exact ⟨_, rfl, ⟨B, d, rfl, hcap, ht.2.2⟩, ht.2.1⟩
    · obtain rfl : j = k := by omega
      have hltz : ¬ (j : Int) < (j : Int) := by omega
      have hzz : z = (m, q, 0) := by rw [HZ.out, hem]
      subst hzz
      have r0 := H.r0
      have r1 := H.r1
      have fr0 := H.free 0
      have fr1 := H.free 1
      have ht := H.told H.st.rd (.slice B m.length d) (.int .i64 room)
      have hcap := H.st.cap
      clear HH HZ H HEM hem hm6
      go_wp2_with fail
      generalize (wr.setCell ⟨w.heap.size + 1, 0, none⟩ (.slice B m.length d)).setCell ⟨w.heap.size + 1, 1, none⟩ (.int .i64 room) = w9 at *
      clear r0 r1 fr0 fr1 c0 c1
      refine bodyPost_ret (results_cell3 rfl _ _ _ _ _ _ _ rfl ht.1 Tryz.underlying26 rfl (by kernel_rfl)) rfl ?_
      exact ⟨_, rfl, ⟨B, d, rfl, hcap, ht.2.2⟩, ht.2.1⟩
set_option maxHeartbeats 4000000 in
theorem refCorner_any (A : Option Addr) (S : List (Int × Int)) (c e : Nat) (w : World) (hR : RdC w w.heap.size A S) (hl : S.length ≤ 900000) (he : e ≤ 60) (hin : ∀ s ∈ S, insideB e s = true) :
    Calls Tryz.prog 33 #[.slice A S.length c, .int .i64 ((e : Int) + 1)] w fun r w' => ∃ v, r = .returned v ∧ OwnC w' w.heap.size v (S.map (inwardC e)) ∧ Below w.heap.size w w' := by
  obtain ⟨i0, hi, hz0, hz1, hz2⟩ := info_parts Cel.infoCell
  obtain ⟨hp1, hp2⟩ := pow_bd7 he
  have HIN := Lib.hid hin
  have HR := Lib.hid hR
  clear hin hR
  go_enter Tryz.func33, Tryz.ntmps33
  go_wp2_with fail
  go_loopw [6, 7] (fun v i wr => ∃ k : Nat, k ≤ S.length ∧ i = .int .i64 k ∧ Aside (OwnC wr w.heap.size v ((S.take k).map (inwardC e))) ∧ Below w.heap.size w wr) (fun _ i _ => S.length - (intOf i).toNat)
  case atStart => exact ⟨0, Nat.zero_le _, rfl, World.ownsRow_nil _ _ _ _, Below.refl _ _⟩
  case round =>
    obtain ⟨k, hk, rfl, HK, hb⟩ := hrel
    obtain ⟨A2, c2, rfl, hc2, -⟩ := Cel.Own.rd HK.out
    have hlen : ((S.take k).map (inwardC e)).length ≤ k := by rw [List.length_map, List.length_take]; omega
    by_cases hlt : k < S.length
    · have hltz : (k : Int) < (S.length : Int) := by omega
      obtain ⟨b, off, rfl, hbB, hcell⟩ := Cel.Rd.at_ HR.out (by omega)
      have hins := HIN.out _ (Cel.getD_mem hlt)
      obtain ⟨⟨x, y⟩, hxy⟩ : ∃ p, p = S.getD k (0, 0) := ⟨_, rfl⟩
      have a0 := (hcell k hlt).1
      have a1 := (hcell k hlt).2
      rw [← hxy] at a0 a1 hins
      unfold insideB at hins
      have hins := of_decide_eq_true hins
      simp only at a0 a1 hins
      have c0 := Qt.keep hb a0
      have c1 := Qt.keep hb a1
      have d0 := Qt.cell_in c0
      have d1 := Qt.cell_in c1
      have s1 : IntKind.i64.wrap (x + 2 ^ e) = x + 2 ^ e := by rw [IntKind.wrap_i64]; generalize (2 : Int) ^ e = p at *; omega
      have s2 : IntKind.i64.wrap (y + 2 ^ e) = y + 2 ^ e := by rw [IntKind.wrap_i64]; generalize (2 : Int) ^ e = p at *; omega
      have HXY := Lib.hid hxy
      have hnew : (S.take k).map (inwardC e) ++ [(x + 2 ^ e, y + 2 ^ e)] = (S.take (k + 1)).map (inwardC e) := by rw [Cel.take_snoc hlt, List.map_append, ← hxy]; rfl
      have HNW := Lib.hid hnew
      clear hxy a0 a1 hcell hins hnew
      generalize hn : ((S.take k).map (inwardC e)).length = n at *
      go_wp2_with fail
      refine Qt.region_late (v := .slice A2 n c2) 16 (by decide) (by kernel_rfl) (by kernel_rfl) rfl ⟨rfl, fun _ => rfl⟩ ?_
      simp only [List.take_succ_cons, List.take_zero, List.drop_succ_cons, List.drop_zero, Act.put, List.setIfInBounds_toArray, List.set_cons_succ, List.set_cons_zero]
      repeat (go_big_quiet_step (fail))
      refine wpQuiet_nil ?_
      intro w3 hb3
      have B3 := Qt.more hb hb.size hb3
      have hown := Cel.Own.below HK.out hb3
      have hsz3 : w.heap.size ≤ w3.heap.size := B3.size
      clear hb3 hb HK s1 s2
      go_wp2_with (at_builtin; refine wpList_append_own _ rfl (.tmp 17) (.tmp 33) 29 rfl w.heap.size 28 i0 (.agg #[.int .i64 0, .int .i64 0]) 2 16 Tryz.underlying29 hi hz0 hz1 hz2 rfl (by decide) _ _ _ rfl (World.ownsRow.alloc hown _) ⟨w3.heap.size, 0, none⟩ 1 1 [.int .i64 (x + 2 ^ e), .int .i64 (y + 2 ^ e)] rfl rfl Cel.one_new Cel.one_cell (by unfold maxLen; omega) (by omega) (by simp; omega) ?_; intro v4 w4 hown4 hgrow4 _)
      have HP := Lib.hid (Cel.push_one (v := .slice A2 n c2) hsz3 B3 hown hown4 hgrow4)
      rw [HNW.out] at HP
      clear hown4 hgrow4 hown d0 d1 c0 c1
      refine ⟨rfl, ?_⟩
      go_wp2_with fail
      go_roundw
      case measure => simp [intOf]; omega
      case rel => exact ⟨k + 1, by omega, by go_num, HP.out.1, HP.out.2⟩
    · have hltz : ¬ (k : Int) < (S.length : Int) := by omega
      obtain rfl : k = S.length := by omega
      have hown := HK.out
      rw [List.take_length] at hown
      rw [List.length_map] at hown
      have HO := Lib.hid hown
      clear hown HK
      rw [List.take_length] at *
      rw [List.length_map] at *
      go_wp2_with fail
      go_ret
      exact ⟨_, rfl, HO.out, hb⟩
end Go.Proofs.YtmmaeikeafemaaaGreat
namespace Go.Proofs.YtmmaeikeafemaaaGreat.Cel
open Go.RowKit Go.Sort

/-- the least and the greatest X of the first k cells -/
def loX (l : List (Int × Int)) (k : Nat) : Int := (l.take k).foldl (fun m c => min m c.1) (l.getD 0 (0, 0)).1
def hiX (l : List (Int × Int)) (k : Nat) : Int := (l.take k).foldl (fun m c => max m c.1) (l.getD 0 (0, 0)).1
def boxV (l : List (Int × Int)) : Value := .agg #[.int .i64 (loX l l.length), .int .i64 (l.getD 0 (0, 0)).2, .int .i64 (hiX l l.length - loX l l.length + 1), .int .i64 ((l.getD (l.length - 1) (0, 0)).2 - (l.getD 0 (0, 0)).2 + 1)]
/-- a block that is known whole -/
def Whole (w : World) (g T : Nat) (cs : Array Value) : Prop := w.heap[g]? = some (.cells cs T (0, 0))
section
variable {w w' : World} {g T : Nat} {cs : Array Value}
theorem Whole.lt (h : Whole w g T cs) : g < w.heap.size := by
  rcases Nat.lt_or_ge g w.heap.size with h' | h'
  · exact h'
  · unfold Whole at h; rw [Array.getElem?_eq_none h'] at h; cases h
theorem Whole.below (h : Whole w g T cs) (hb : Below w.heap.size w w') : Whole w' g T cs := (hb.block g h.lt).trans h
theorem Whole.cell (h : Whole w g T cs) (i : Nat) : w.cell? ⟨g, i, none⟩ = cs[i]? := cell_of_row w g i cs T (0, 0) h
theorem Whole.free (h : Whole w g T cs) (i : Nat) : w.frozen? ⟨g, i, none⟩ = false := frozen_of_row w g i cs T h
theorem Whole.new (w : World) (T : Nat) (cs : Array Value) : Whole (w.alloc (.cells cs T)) w.heap.size T cs := heap_alloc_new w _
end

/-- a Box's block: its cells, none frozen -/
theorem Whole.four {w : World} {g T : Nat} {a b c d : Value} (h : Whole w g T #[a, b, c, d]) :
    w.cell? ⟨g, 0, none⟩ = some a ∧ w.cell? ⟨g, 1, none⟩ = some b ∧ w.cell? ⟨g, 2, none⟩ = some c ∧ w.cell? ⟨g, 3, none⟩ = some d ∧
    w.frozen? ⟨g, 0, none⟩ = false ∧ w.frozen? ⟨g, 1, none⟩ = false ∧ w.frozen? ⟨g, 2, none⟩ = false ∧ w.frozen? ⟨g, 3, none⟩ = false :=
  ⟨h.cell 0, h.cell 1, h.cell 2, h.cell 3, h.free 0, h.free 1, h.free 2, h.free 3⟩

end Go.Proofs.YtmmaeikeafemaaaGreat.Cel
namespace Go.Proofs.YtmmaeikeafemaaaGreat.Cel
open Go.RowKit Go.Sort

/-! ### what the box is about -/
theorem Whole.far {w : World} {g T : Nat} {cs : Array Value} (h : Whole w g T cs) {p : Addr} (hp : g ≠ p.block) (u : Value) : Whole (w.setCell p u) g T cs := (Below.heap_setCell w p u g hp).trans h
end Go.Proofs.YtmmaeikeafemaaaGreat.Cel
namespace Go.Proofs.YtmmaeikeafemaaaGreat.Cel
open Go.RowKit Go.Sort

theorem rises_shL (x y : Int) {l : List (Int × Int)} (h : Rises l) : Rises (shL x y l) := by
  unfold shL Rises
  rw [List.pairwise_map]
  refine List.Pairwise.imp ?_ h
  intro p q hpq
  rw [lessB_iff] at *
  simp only
  omega
/-- A set near the middle. -/
def Near (l : List (Int × Int)) : Prop := l.length ≤ 60 ∧ Rises l ∧ ∀ p ∈ l, -8 ≤ p.1 ∧ p.1 ≤ 7 ∧ -8 ≤ p.2 ∧ p.2 ≤ 7
def Far (x : Int) : Prop := -1099511627000 ≤ x ∧ x ≤ 1099511627000
theorem Near.far {l : List (Int × Int)} (h : Near l) {x y : Int} (hx : Far x) (hy : Far y) : rightB (shL x y l) = true := by
  unfold Far at hx hy
  refine (rightB_iff _).2 ⟨?_, fun c hc => ?_, rises_shL x y h.2.1⟩
  · rw [length_shL]; exact Nat.le_trans h.1 (by decide)
  · obtain ⟨p, hp, rfl⟩ := List.mem_map.1 hc
    have := h.2.2 p hp
    rw [inB_iff]
    simp only
    omega
theorem Near.right {l : List (Int × Int)} (h : Near l) : rightB l = true := by
  have := h.far (x := 0) (y := 0) ⟨by decide, by decide⟩ ⟨by decide, by decide⟩
  have e : shL 0 0 l = l := by
    unfold shL
    conv => rhs; rw [← List.map_id l]
    refine List.map_congr_left fun c _ => ?_
    simp
  rwa [e] at this
/-- A slice whose cells read as a list, now. -/
def Now (w : World) (A : Option Addr) (l : List (Int × Int)) : Prop := Rd w w.heap.size A l
theorem Now.below {w w' : World} {A : Option Addr} {l : List (Int × Int)} (h : Now w A l) (hb : Below w.heap.size w w') : Now w' A l := (Rd.below h hb (Nat.le_refl _)).more hb.size

end Go.Proofs.YtmmaeikeafemaaaGreat.Cel
namespace Go.Proofs.YtmmaeikeafemaaaGreat.Cel
open Go.RowKit Go.Sort

/-- .. what comes out of it, as a list at a place of its own -/
def Fresh (w : World) (l : List (Int × Int)) (e : Ending) (w' : World) : Prop :=
  ∃ g, e = .returned (.tuple #[.slice (some ⟨g, 0, none⟩) l.length l.length, .int .i64 0]) ∧ Row w' w.heap.size 28 g l.length l.length l ∧ Below w.heap.size w w'

end Go.Proofs.YtmmaeikeafemaaaGreat.Cel
namespace Go.Proofs.YtmmaeikeafemaaaGreat.Cel
open Go.RowKit Go.Sort

theorem Fresh.now {w w' : World} {l : List (Int × Int)} {e : Ending} (h : Fresh w l e w') : ∃ g, e = .returned (.tuple #[.slice (some ⟨g, 0, none⟩) l.length l.length, .int .i64 0]) ∧ Hid (Now w' (some ⟨g, 0, none⟩) l) ∧ Below w.heap.size w w' := by
  obtain ⟨g, he, hr, hb⟩ := h
  exact ⟨g, he, hr.rd, hb⟩

end Go.Proofs.YtmmaeikeafemaaaGreat.Cel
namespace Go.Proofs.YtmmaeikeafemaaaGreat.Cel
open Go.RowKit Go.Sort

theorem append_none {w : World} {B : Nat} {v : Value} {out : List (Int × Int)} (c : Nat) (ho : Own w B 28 v out) :
    (Builtin.append_ #[29, 29] 29 #[v, .slice none 0 c]).run Tryz.prog w = .ok v w := by
  obtain ⟨i0, hi, hz0, hz1, hz2⟩ := info_parts infoCell
  rcases ho.2 with ⟨rfl, _⟩ | ⟨g, cap, cur, rfl, _, _, hnc, _⟩
  · simp [Builtin.append_, run_underlying Tryz.underlying29, sizeOf, typeInfo, hi, Builtin.lenOf, Builtin.firstCells]
  · simp [Builtin.append_, run_underlying Tryz.underlying29, sizeOf, typeInfo, hi, Builtin.lenOf, Builtin.firstCells, storeCells, hnc]

theorem fl_at {w : World} {b off : Nat} {m : List (Int × Int)} (h : ∀ j, j < m.length → w.cell? ⟨b, off + j * 2, none⟩ = some (.int .i64 (m.getD j (0, 0)).1) ∧ w.cell? ⟨b, off + j * 2 + 1, none⟩ = some (.int .i64 (m.getD j (0, 0)).2)) :
    ∀ j u, (fl m)[j]? = some u → w.cell? ((⟨b, off, none⟩ : Addr).add j) = some u := by
  intro j u hu
  rw [Addr.add_lit]
  have hj : j < m.length * 2 := by
    rcases Nat.lt_or_ge j (m.length * 2) with h1 | h1
    · exact h1
    · rw [List.getElem?_eq_none (by rw [length_fl]; exact h1)] at hu; cases hu
  obtain ⟨h0, h1⟩ := h (j / 2) (by omega)
  obtain ⟨f0, f1⟩ := fl_get m (j / 2) (by omega)
  by_cases hp : j % 2 = 0
  · have e : j = j / 2 * 2 := by omega
    rw [e] at hu ⊢
    rw [f0] at hu
    rw [← hu]
    exact h0
  · have e : j = j / 2 * 2 + 1 := by omega
    rw [e] at hu ⊢
    rw [f1] at hu
    rw [← hu, ← Nat.add_assoc]
    exact h1

theorem app_any {w : World} {B : Nat} {v : Value} {out m : List (Int × Int)} {A : Option Addr} (c : Nat) (hB : B ≤ w.heap.size) (ho : Own w B 28 v out) (hm : Now w A m) (hl : out.length + m.length ≤ 1000000) :
    ∃ v' w', (Builtin.append_ #[29, 29] 29 #[v, .slice A m.length c]).run Tryz.prog w = .ok v' w' ∧ Own w' B 28 v' (out ++ m) ∧ w.grownBy w' v.ownBlock := by
  obtain ⟨i0, hi, hz0, hz1, hz2⟩ := info_parts infoCell
  rcases Nat.eq_zero_or_pos m.length with h0 | h0
  · obtain rfl : m = [] := List.eq_nil_of_length_eq_zero h0
    cases A with
    | none => exact ⟨v, w, append_none c ho, by rw [List.append_nil]; exact ho, ⟨rfl, rfl, rfl, Nat.le_refl _, fun _ _ _ => rfl⟩⟩
    | some a =>
      obtain ⟨v', w', hr, h2, h3, _⟩ := run_append_own (P := Tryz.prog) (w := w) B 29 29 28 i0 (.agg #[.int .i64 0, .int .i64 0]) 2 16 Tryz.underlying29 hi hz0 hz1 hz2 rfl (by decide) v out.length (fl out) ho a 0 c [] rfl (fun j u h => by simp at h) (fun u h => by cases h) (by unfold maxLen; omega) (by omega) hB
      exact ⟨v', w', hr, by rw [List.append_nil] at h2 ⊢; exact h2, h3⟩
  · obtain ⟨b, off, rfl, _, hcell⟩ := Rd.at_ hm h0
    obtain ⟨v', w', hr, h2, h3, _⟩ := run_append_own (P := Tryz.prog) (w := w) B 29 29 28 i0 (.agg #[.int .i64 0, .int .i64 0]) 2 16 Tryz.underlying29 hi hz0 hz1 hz2 rfl (by decide) v out.length (fl out) ho ⟨b, off, none⟩ m.length c (fl m) (length_fl m) (fl_at hcell) (fl_cell1 m) (by unfold maxLen; omega) (by omega) hB
    refine ⟨v', w', hr, ?_, h3⟩
    unfold Own
    rw [fl_append, List.length_append]
    exact h2

theorem Now.drop {w : World} {b off : Nat} {l : List (Int × Int)} (h : Now w (some ⟨b, off, none⟩) l) {t : Nat} (ht : t < l.length) : Now w (some ⟨b, off + t * 2, none⟩) (l.drop t) := by
  intro j hj
  rw [List.length_drop] at hj
  obtain ⟨b', off', e, hlt, h0, h1⟩ := h (t + j) (by omega)
  simp only [Option.some.injEq, Addr.mk.injEq, and_true] at e
  obtain ⟨rfl, rfl⟩ := e
  have hg : (l.drop t).getD j (0, 0) = l.getD (t + j) (0, 0) := by rw [List.getD_eq_getElem?_getD, List.getD_eq_getElem?_getD, List.getElem?_drop]
  refine ⟨_, _, rfl, hlt, ?_, ?_⟩
  · rw [hg, ← h0]; congr 2; omega
  · rw [hg, ← h1]; congr 2; omega
theorem Now.take {w : World} {A : Option Addr} {l : List (Int × Int)} (h : Now w A l) (t : Nat) : Now w A (l.take t) := by
  intro j hj
  rw [List.length_take] at hj
  have hg : (l.take t).getD j (0, 0) = l.getD j (0, 0) := by rw [List.getD_eq_getElem?_getD, List.getD_eq_getElem?_getD, List.getElem?_take, if_pos (by omega)]
  rw [hg]
  exact h j (by omega)

/-! ### what the sets are -/
end Go.Proofs.YtmmaeikeafemaaaGreat.Cel
