/-
  Texts that the claims of this seat share, part 17.
-/
import Derived.Test.YtikgnjcjbjafaaaB16
import Derived.Test.YtikgnjcjbjafaaaRows
import Derived.ProofKit
import Derived.OpenShut
import Derived.ChangeOld
import Derived.Deep.Slices
import Derived.Deep.Fields
import Derived.Test.YtikgnjcjbjafaaaB08
import Derived.Test.YtikgnjcjbjafaaaB10
import Derived.Test.YtikgnjcjbjafaaaB14
import Derived.Test.YtikgnjcjbjafaaaB09
import Derived.Maps.RangeWalk
import Derived.Maps.Views
import Derived.DeepKeys4
import Derived.Outline
import Derived.Deep.DeepFit
import Derived.Test.YtikgnjcjbjafaaaB02
set_option linter.unusedVariables false
set_option linter.unusedSimpArgs false
namespace Go.Proofs.Ytikgnjcjbjafaaa.Cel
open Go.ChangeShapes Go.WideShapes Go.ChangeAt Go.RowKit Go.Deep

theorem exists_list {n : Nat} {Q : Nat → Int × Int → Prop} (h : ∀ i, i < n → ∃ p, Q i p) : ∃ l : List (Int × Int), l.length = n ∧ ∀ i, i < n → Q i (l.getD i (0, 0)) := by
  induction n with
  | zero => exact ⟨[], rfl, fun i hi => absurd hi (Nat.not_lt_zero i)⟩
  | succ n ih =>
    obtain ⟨l, hl, hq⟩ := ih fun i hi => h i (by omega)
    obtain ⟨p, hp⟩ := h n (by omega)
    refine ⟨l ++ [p], by simp [hl], fun i hi => ?_⟩
    by_cases hin : i < n
    · rw [List.getD_eq_getElem?_getD, List.getElem?_append_left (by omega), ← List.getD_eq_getElem?_getD]
      exact hq i hin
    · have : i = n := by omega
      subst this
      rw [List.getD_eq_getElem?_getD, List.getElem?_append_right (by omega), hl]
      simpa using hp

section
variable {H : Type} {enc : TypeId × Value → H} {w : World} {base : Nat} {spare : Nat → Bool} {held : Bool}

/-- An element of two cells, each a number. -/
def TwoInts (P : Program) (e : TypeId) : Prop := P.cellsOf e = 2 ∧ ∀ {H : Type} {enc : TypeId × Value → H} {w : World} {base : Nat} {spare : Nat → Bool} {held : Bool} (n : Nat) (cs : List Value) (y : DataW H × List MemPlace), DataW.trod enc P w base spare held n e cs = some y → ∃ a b, cs = [.int .i64 a, .int .i64 b] ∧ I64 a ∧ I64 b

theorem i64_of_wf {a : Int} (h : (Lit.int .i64 a).wf = true) : I64 a := by
  have : IntKind.i64.min ≤ a ∧ a ≤ IntKind.i64.max := by simpa [Lit.wf] using h
  simpa [I64, IntKind.min, IntKind.max, IntKind.signed, IntKind.bits] using this

theorem two_array {P : Program} {e t : TypeId} (he : P.underlying e = some (.array 2 t)) (ht : P.underlying t = some (.int .i64)) (h2 : P.cellsOf e = 2) (h1 : P.cellsOf t = 1) : TwoInts P e := by
  refine ⟨h2, fun n cs y h => ?_⟩
  obtain ⟨xs, m, _, _, hlen, hxl, hx⟩ := DataW.trod_array he h
  rw [h2] at hlen
  obtain ⟨a, b, rfl⟩ : ∃ a b, cs = [a, b] := by
    match cs, hlen with
    | [a, b], _ => exact ⟨a, b, rfl⟩
  have x0 := hx 0 (by omega)
  have x1 := hx 1 (by omega)
  rw [h1] at x0 x1
  rw [List.getElem?_eq_getElem (by omega)] at x0 x1
  obtain ⟨u, hu, _, wu⟩ := DataW.trod_int ht x0
  obtain ⟨v, hv, _, wv⟩ := DataW.trod_int ht x1
  simp at hu hv
  exact ⟨u, v, by rw [hu, hv], i64_of_wf wu, i64_of_wf wv⟩

theorem two_struct {P : Program} {e t : TypeId} {f0 f1 : Field} (he : P.underlying e = some (.struct #[f0, f1])) (h0 : f0.type = t) (h1 : f1.type = t) (ht : P.underlying t = some (.int .i64)) (hone : oneCellFields P #[f0, f1] = true) (h2 : P.cellsOf e = 2) : TwoInts P e := by
  refine ⟨h2, fun n cs y h => ?_⟩
  obtain ⟨ys, m, hn, hy, hlen, hyl, hf⟩ := DataW.trod_struct he h
  rw [h2] at hlen
  obtain ⟨a, b, rfl⟩ : ∃ a b, cs = [a, b] := by
    match cs, hlen with
    | [a, b], _ => exact ⟨a, b, rfl⟩
  obtain ⟨o0, k0⟩ := hone_of hone 0 f0 rfl
  obtain ⟨o1, k1⟩ := hone_of hone 1 f1 rfl
  have x0 := hf 0 f0 rfl
  have x1 := hf 1 f1 rfl
  have hyl' : ys.length = 2 := by simpa using hyl
  rw [o0, k0, h0, List.getElem?_eq_getElem (by omega)] at x0
  rw [o1, k1, h1, List.getElem?_eq_getElem (by omega)] at x1
  obtain ⟨u, hu, _, wu⟩ := DataW.trod_int ht x0
  obtain ⟨v, hv, _, wv⟩ := DataW.trod_int ht x1
  simp at hu hv
  exact ⟨u, v, by rw [hu, hv], i64_of_wf wu, i64_of_wf wv⟩

/-- A slice of such pairs that came in. -/
theorem open_pairs {P : Program} {t e : TypeId} {fuel : Nat} {a0 : Option Addr} {len0 cap0 : Nat} {x : DataW H × List MemPlace} (ht : P.underlying t = some (.slice e)) (he : TwoInts P e) (h : DataW.trod enc P w base spare held fuel t [.slice a0 len0 cap0] = some x) :
    ∃ l : List (Int × Int), l.length = len0 ∧ len0 ≤ cap0 ∧ cap0 ≤ maxLen ∧ Rd w w.heap.size a0 l ∧ ∀ p ∈ l, I64 p.1 ∧ I64 p.2 := by
  rcases open_slice ht h with ⟨hcs, _⟩ | ⟨a, len, cap, m, n, D, Pl, hcs, hb, hl, hm, hmm, _, hi⟩
  · simp at hcs
    obtain ⟨rfl, rfl, rfl⟩ := hcs
    exact ⟨[], rfl, Nat.le_refl _, by simp [maxLen], Rd.nil _ _ _, fun p hp => by cases hp⟩
  · simp at hcs
    obtain ⟨rfl, rfl, rfl⟩ := hcs
    have hlm : len0 ≤ m := by rw [hmm]; split <;> omega
    have hq : ∀ i, i < len0 → ∃ p : Int × Int, (w.cell? (a.add (i * 2)) = some (.int .i64 p.1) ∧ w.cell? ((a.add (i * 2)).add 1) = some (.int .i64 p.2)) ∧ I64 p.1 ∧ I64 p.2 := by
      intro i hi'
      obtain ⟨cs', hc, ht'⟩ := hi i (by omega)
      rw [he.1] at hc
      obtain ⟨u, v, rfl, wu, wv⟩ := he.2 _ _ _ ht'
      obtain ⟨_, _, hat⟩ := World.cells?_some hc
      have h0 := hat 0 (by omega)
      have h1 := hat 1 (by omega)
      refine ⟨(u, v), ⟨?_, ?_⟩, wu, wv⟩
      · simpa [Addr.add] using h0
      · simpa using h1
    obtain ⟨l, hll, hlq⟩ := exists_list hq
    refine ⟨l, hll, hl, hm, fun j hj => ?_, fun p hp => ?_⟩
    · obtain ⟨⟨c0, c1⟩, _⟩ := hlq j (by omega)
      obtain ⟨b, off, spot⟩ := a
      have hspot : spot = none := by
        have := (hlq 0 (by omega)).1.1
        simpa [Addr.add] using World.cell?_spot this
      subst hspot
      rw [Addr.add_lit] at c0 c1
      rw [Addr.add_lit] at c1
      exact ⟨b, off, rfl, block_lt_of_cell c0, c0, c1⟩
    · obtain ⟨j, hj, rfl⟩ := List.getElem_of_mem hp
      have := (hlq j (by omega)).2
      rwa [List.getD_eq_getElem?_getD, List.getElem?_eq_getElem hj] at this
end

theorem twoArr : TwoInts Try.prog 70 := two_array Try.underlying70 Try.underlying3 (by kernel_rfl) (by kernel_rfl)
theorem own : ownKnob Try.prog.godebug = none := by kernel_rfl
theorem laidOut : laidOutB Try.prog = true := by kernel_rfl

end Go.Proofs.Ytikgnjcjbjafaaa.Cel
namespace Go.Proofs.Ytikgnjcjbjafaaa
set_option maxRecDepth 100000
set_option linter.unusedVariables false
open Go.ChangeShapes Go.WideShapes Go.ChangeAt Go.RowKit Go.Deep
theorem num_in {H : Type} {enc : TypeId × Value → H} {w : World} {base : Nat} {spare : Nat → Bool} {held : Bool} {P : Program} {t : TypeId} {fuel : Nat} {cs : List Value} {x : DataW H × List MemPlace} (he : P.underlying t = some (.int .i64))
    (h : DataW.trod enc P w base spare held fuel t cs = some x) : ∃ a : Int, cs = [.int .i64 a] ∧ I64 a := by
  obtain ⟨a, hu, _, wu⟩ := DataW.trod_int he h
  exact ⟨a, hu, i64_wf6 wu⟩
theorem nums6_in {H : Type} {enc : TypeId × Value → H} {w : World} {base : Nat} {spare : Nat → Bool} {held : Bool} {fuel : Nat} {a0 : Option Addr} {len0 cap0 : Nat} {x : DataW H × List MemPlace}
    (h : DataW.trod enc Try.prog w base spare held fuel 60 [.slice a0 len0 cap0] = some x) : ∃ l : List Int, l.length = len0 ∧ len0 ≤ cap0 ∧ cap0 ≤ maxLen ∧ Now w a0 l ∧ ∀ j, j < l.length → I64 (l.getD j 0) := by
  obtain ⟨l, h1, h2, h3, h4, h5⟩ := els_in (fun a : Int => [.int .i64 a]) 0 I64 1 (by decide) (fun _ => rfl) Try.underlying60 (by kernel_rfl) (fun _ _ _ hy => num_in Try.underlying3 hy) h
  refine ⟨l, h1, h2, h3, fun j hj => ?_, h5⟩
  obtain ⟨b, off, e, hb, hc⟩ := h4 j hj
  have h0 := hc 0 (by decide)
  rw [Nat.mul_one, Nat.add_zero] at h0
  exact ⟨b, off, e, hb, h0⟩
theorem store_val {H : Type} {enc : TypeId × Value → H} {W : World} {base b0 : Nat} {spare : Nat → Bool} {held : Bool} {r : Reach} {v : Value} {d : DataW H} {ps : List MemPlace}
    (hv : Value.okWide Try.prog W r b0 27 v) (h : DataW.Trod enc Try.prog W base spare held 27 v d ps) :
    ∃ (a : Option Addr) (l : List Nd) (c : Nat) (room : Int), v = storeV a l.length c room ∧ l.length ≤ c ∧ c ≤ maxLen ∧ RdN W W.heap.size a l ∧ (∀ j, j < l.length → FineN (l.getD j deadN)) ∧ I64 room := by
  obtain ⟨xs, rfl, hsz⟩ := okWide_struct Try.underlying27 hv
  obtain ⟨fuel, hf⟩ := h
  obtain ⟨y0, y1, n, _, hl, k0, k1⟩ := trod_struct2 Try.underlying27 hf
  have hsz2 : xs.size = 2 := hsz.trans (by kernel_rfl)
  obtain ⟨x0, x1, rfl⟩ : ∃ x0 x1, xs = #[x0, x1] := by
    obtain ⟨l⟩ := xs
    match l, hsz2 with
    | [a, b], _ => exact ⟨a, b, rfl⟩
  have k0' : DataW.trod enc Try.prog W base spare held n 25 [x0] = some y0 := k0
  have k1' : DataW.trod enc Try.prog W base spare held n 3 [x1] = some y1 := k1
  obtain ⟨room, hroom, hI⟩ := num_in Try.underlying3 k1'
  have hx1 : x1 = .int .i64 room := by simpa using hroom
  subst hx1
  have hsl : ∃ a len cap, x0 = .slice a len cap := by
    rcases open_slice Try.underlying25 k0' with ⟨hcs, _⟩ | ⟨a, len, cap, m, k, D, Pl, hcs, _⟩
    · exact ⟨none, 0, 0, by simpa using hcs⟩
    · exact ⟨_, _, _, by simpa using hcs⟩
  obtain ⟨a, len, cap, rfl⟩ := hsl
  obtain ⟨l, rfl, h2, h3, h4, h5⟩ := nodes_in k0'
  exact ⟨a, l, cap, room, rfl, h2, h3, h4, h5, hI⟩
end Go.Proofs.Ytikgnjcjbjafaaa
namespace Go.Proofs.Ytikgnjcjbjafaaa.Cel
set_option linter.unusedVariables false
set_option linter.unusedSimpArgs false
open Go.RowKit Go.Sort

theorem refIn_yes (p : Int × Int) (h : inB p = true) (w : World) : Calls Try.prog 57 #[.agg #[.int .i64 p.1, .int .i64 p.2]] w fun e w' => e = .returned (.bool true) ∧ Below w.heap.size w w' := by
  have := in_any p w; rw [h] at this; exact this
theorem refIn_no (p : Int × Int) (h : inB p = false) (w : World) : Calls Try.prog 57 #[.agg #[.int .i64 p.1, .int .i64 p.2]] w fun e w' => e = .returned (.bool false) ∧ Below w.heap.size w w' := by
  have := in_any p w; rw [h] at this; exact this

set_option maxHeartbeats 1000000 in
set_option maxRecDepth 100000 in
theorem refRight_any (A : Option Addr) (l : List (Int × Int)) (c : Nat) (w : World) (hR : Rd w w.heap.size A l) (hl : l.length ≤ 1000000) (hc : l.length ≤ c) :
    Calls Try.prog 56 #[.slice A l.length c] w fun e w' => e = .returned (.bool (rightB l)) ∧ Below w.heap.size w w' := by
  generalize hr : rightB l = r
  have HR := Lib.hid hr
  clear hr
  go_enter Try.func56, Try.ntmps56
  go_wp2
  go_loopw [3] (fun i wr => ∃ k : Nat, k ≤ l.length ∧ i = .int .i64 k ∧ Hid (∀ j, j < k → okAt l j = true) ∧ Below w.heap.size w wr) (fun i _ => l.length - (intOf i).toNat)
  case atStart => exact ⟨0, Nat.zero_le _, rfl, fun j hj => absurd hj (Nat.not_lt_zero j), Below.refl _ _⟩
  case round =>
    obtain ⟨k, hk, rfl, HK, hb⟩ := hrel
    by_cases hlt : k < l.length
    · have hltz : (k : Int) < (l.length : Int) := by omega
      obtain ⟨b, off, rfl, hbB, hcell⟩ := hR.at_ (by omega)
      obtain ⟨⟨x, y⟩, hxy⟩ : ∃ p, p = l.getD k (0, 0) := ⟨_, rfl⟩
      have a0 := (hcell k hlt).1
      have a1 := (hcell k hlt).2
      rw [← hxy] at a0 a1
      simp only at a0 a1
      have k0 := Qt.cell_in (Qt.keep hb a0)
      have k1 := Qt.cell_in (Qt.keep hb a1)
      have HXY := Lib.hid hxy
      clear hxy a0 a1
      by_cases hin : inB (x, y) = true
      · rcases Nat.eq_zero_or_pos k with hk0 | hk0
        · clear hcell
          have hkd : decide (0 < k) = false := by simp; omega
          have hkd2 : decide ((0 : Int) < (k : Int)) = false := by simp; omega
          have HOK : Hid (okAt l k = true) := by show okAt l k = true; unfold okAt; rw [← HXY.out, hin, hk0]; rfl
          clear hk0
          go_wp2
          refine Qt.below_all (by kernel_rfl) (by kernel_rfl) ?_
          repeat (go_big_quiet_step (first | (go_at_call 57; exact Qt.at_call (refIn_yes (x, y) hin))))
          refine wpQuiet_nil ?_
          intro w1 hb1
          go_wp2
          go_roundw
          case measure => simp [intOf]; omega
          case rel =>
            refine ⟨k + 1, by omega, by go_num, (show Hid _ from fun j hj => ?_), Qt.more hb hb.size hb1⟩
            by_cases hjk : j = k
            · subst hjk; exact HOK.out
            · exact HK.out j (by omega)
        · obtain ⟨kp, rfl⟩ : ∃ kp, k = kp + 1 := ⟨k - 1, by omega⟩
          obtain ⟨⟨px, py⟩, hp⟩ : ∃ p, p = l.getD kp (0, 0) := ⟨_, rfl⟩
          have p0 := (hcell kp (by omega)).1
          have p1 := (hcell kp (by omega)).2
          rw [← hp] at p0 p1
          simp only at p0 p1
          have k2 := Qt.cell_in (Qt.keep hb p0)
          have k3 := Qt.cell_in (Qt.keep hb p1)
          have HP := Lib.hid hp
          clear hp hcell p0 p1
          cases hcm : lessB (px, py) (x, y)
          · have HNO : Hid (rightB l = false) := rightB_no hlt (by
              unfold okAt
              rw [← HXY.out, hin, Nat.add_sub_cancel, ← HP.out]
              have : ¬ cmpP (px, py) (x, y) < 0 := by rw [cmpP_neg, hcm]; exact Bool.false_ne_true
              simpa using this)
            go_wp2
            refine Qt.below_all (by kernel_rfl) (by kernel_rfl) ?_
            repeat (go_big_quiet_step (first | (go_at_call 57; exact Qt.at_call (refIn_yes (x, y) hin)) | (go_at_call 74; exact Qt.at_call (less_no (px, py) (x, y) hcm))))
            refine wpQuiet_nil ?_
            intro w1 hb1
            go_wp2
            go_ret
            exact ⟨by rw [← HR.out, HNO.out]; rfl, Qt.more hb hb.size hb1⟩
          · have HOK : Hid (okAt l (kp + 1) = true) := by
              show okAt l (kp + 1) = true
              unfold okAt
              rw [← HXY.out, hin, Nat.add_sub_cancel, ← HP.out]
              have : cmpP (px, py) (x, y) < 0 := by rw [cmpP_neg, hcm]
              simpa using this
            go_wp2
            refine Qt.below_all (by kernel_rfl) (by kernel_rfl) ?_
            repeat (go_big_quiet_step (first | (go_at_call 57; exact Qt.at_call (refIn_yes (x, y) hin)) | (go_at_call 74; exact Qt.at_call (less_yes (px, py) (x, y) hcm))))
            refine wpQuiet_nil ?_
            intro w1 hb1
            go_wp2
            go_roundw
            case measure => simp [intOf]; omega
            case rel =>
              refine ⟨kp + 1 + 1, by omega, by go_num, (show Hid _ from fun j hj => ?_), Qt.more hb hb.size hb1⟩
              by_cases hjk : j = kp + 1
              · subst hjk; exact HOK.out
              · exact HK.out j (by omega)
      · have hin' : inB (x, y) = false := by simpa using hin
        have HNO : Hid (rightB l = false) := rightB_no hlt (by unfold okAt; rw [← HXY.out, hin']; rfl)
        clear hcell hin
        go_wp2
        refine Qt.below_all (by kernel_rfl) (by kernel_rfl) ?_
        repeat (go_big_quiet_step (first | (go_at_call 57; exact Qt.at_call (refIn_no (x, y) hin'))))
        refine wpQuiet_nil ?_
        intro w1 hb1
        go_wp2
        go_ret
        exact ⟨by rw [← HR.out, HNO.out]; rfl, Qt.more hb hb.size hb1⟩
    · have hltz : ¬ (k : Int) < (l.length : Int) := by omega
      have hkl : k = l.length := by omega
      by_cases hlong : 2000 < l.length
      · have E := Lib.hid (rightB_long hlong)
        clear HK hkl
        go_wp2
        go_ret
        exact ⟨by rw [← HR.out, E.out]; simp; omega, hb⟩
      · have E : Hid (rightB l = true) := rightB_yes (by omega) fun j hj => HK.out j (by omega)
        clear HK hkl
        go_wp2
        go_ret
        exact ⟨by rw [← HR.out, E.out]; simp; omega, hb⟩

set_option maxHeartbeats 1000000 in
set_option maxRecDepth 100000 in
theorem refHas_any (A : Option Addr) (l : List (Int × Int)) (c : Nat) (q : Int × Int) (w : World) (hR : Rd w w.heap.size A l) (hl : l.length ≤ 1000000) (hc : l.length ≤ c) :
    Calls Try.prog 22 #[.slice A l.length c, .agg #[.int .i64 q.1, .int .i64 q.2]] w fun e w' => e = .returned (.bool (hasB l q)) ∧ Below w.heap.size w w' := by
  obtain ⟨qx, qy⟩ := q
  generalize hr : hasB l (qx, qy) = r
  have HR := Lib.hid hr
  clear hr
  go_enter Try.func22, Try.ntmps22
  go_wp2
  go_loopw [5] (fun i wr => ∃ k : Nat, k ≤ l.length ∧ i = .int .i64 k ∧ Hid (∀ j, j < k → l.getD j (0, 0) ≠ (qx, qy)) ∧ wr.cell? ⟨w.heap.size, 0, none⟩ = some (.int .i64 qx) ∧ wr.cell? ⟨w.heap.size, 1, none⟩ = some (.int .i64 qy) ∧ Below w.heap.size w wr) (fun i _ => l.length - (intOf i).toNat)
  case atStart => exact ⟨0, Nat.zero_le _, rfl, fun j hj => absurd hj (Nat.not_lt_zero j), by simp, by simp, (Below.refl _ _).alloc (Nat.le_refl _) _⟩
  case round =>
    obtain ⟨k, hk, rfl, HK, q0, q1, hb⟩ := hrel
    by_cases hlt : k < l.length
    · have hltz : (k : Int) < (l.length : Int) := by omega
      obtain ⟨b, off, rfl, hbB, hcell⟩ := hR.at_ (by omega)
      obtain ⟨⟨x, y⟩, hxy⟩ : ∃ p, p = l.getD k (0, 0) := ⟨_, rfl⟩
      have a0 := (hcell k hlt).1
      have a1 := (hcell k hlt).2
      rw [← hxy] at a0 a1
      simp only at a0 a1
      have k0 := Qt.cell_in (Qt.keep hb a0)
      have k1 := Qt.cell_in (Qt.keep hb a1)
      have k2 := Qt.cell_in q0
      have k3 := Qt.cell_in q1
      have HXY := Lib.hid hxy
      clear hxy a0 a1 hcell
      have HNH : Hid (¬ (x = qx ∧ y = qy) → l.getD k (0, 0) ≠ (qx, qy)) := (show ¬ (x = qx ∧ y = qy) → l.getD k (0, 0) ≠ (qx, qy) from fun hn e => hn (by rw [← HXY.out] at e; simpa using e))
      have hcase : (x = qx ∧ y = qy) ∨ (x = qx ∧ ¬ y = qy) ∨ ¬ x = qx := by
        by_cases h1 : x = qx <;> by_cases h2 : y = qy <;> simp [h1, h2]
      rcases hcase with ⟨rfl, rfl⟩ | ⟨rfl, hy⟩ | hx
      · have E : Hid (hasB l (x, y) = true) := (hasB_iff _ _).2 (by rw [HXY.out]; exact getD_mem hlt)
        go_wp2
        refine Qt.below_all (by kernel_rfl) (by kernel_rfl) ?_
        repeat (go_big_quiet_step (fail))
        refine wpQuiet_nil ?_
        intro w1 hb1
        clear k0 k1 k2 k3
        go_wp2
        go_ret
        exact ⟨by rw [← HR.out, E.out]; rfl, Qt.more hb hb.size hb1⟩
      all_goals
        go_wp2
        refine Qt.below_all (by kernel_rfl) (by kernel_rfl) ?_
        repeat (go_big_quiet_step (fail))
        refine wpQuiet_nil ?_
        intro w1 hb1
        clear k0 k1 k2 k3
        have d0 := Qt.keep hb1 q0
        have d1 := Qt.keep hb1 q1
        go_wp2
        go_roundw
        case measure => simp [intOf]; omega
        case rel =>
          refine ⟨k + 1, by omega, by go_num, (show Hid _ from fun j hj => ?_), d0, d1, Qt.more hb hb.size hb1⟩
          by_cases hjk : j = k
          · subst hjk; first | exact HNH.out (fun h => hy h.2) | exact HNH.out (fun h => hx h.1)
          · exact HK.out j (by omega)
    · have hltz : ¬ (k : Int) < (l.length : Int) := by omega
      have E : Hid (hasB l (qx, qy) = false) := (show hasB l (qx, qy) = false from by
        rw [Bool.eq_false_iff]
        intro h
        obtain ⟨j, hj, e⟩ := List.getElem_of_mem ((hasB_iff _ _).1 h)
        exact HK.out j (by omega) (by rw [List.getD_eq_getElem?_getD, List.getElem?_eq_getElem hj]; exact e))
      go_wp2
      go_ret
      exact ⟨by rw [← HR.out, E.out]; rfl, hb⟩

end Go.Proofs.Ytikgnjcjbjafaaa.Cel
namespace Go.Proofs.Ytikgnjcjbjafaaa.Cel

theorem inB_bd {p : Int × Int} (h : inB p = true) : -1099511627776 ≤ p.1 ∧ p.1 ≤ 1099511627776 ∧ -1099511627776 ≤ p.2 ∧ p.2 ≤ 1099511627776 := by simpa [inB] using h
theorem setL_ext {l m : List (Int × Int)} (h : ∀ y, y ∈ l ↔ y ∈ m) : setL l = setL m :=
  rises_ext (rises_setL l) (rises_setL m) fun y => by rw [mem_setL, mem_setL]; exact h y

/-- whether p is a neighbour of c -/
def nbB (c p : Int × Int) : Bool := decide (-1 ≤ c.1 - p.1 ∧ c.1 - p.1 ≤ 1 ∧ -1 ≤ c.2 - p.2 ∧ c.2 - p.2 ≤ 1 ∧ c ≠ p)
def nbr (l : List (Int × Int)) (p : Int × Int) : Nat := l.countP fun c => nbB c p
def livesB (a : Bool) (n : Int) : Bool := decide (n = 3) || (a && decide (n = 2))
/-- alive behind a generation -/
def aliveB (l : List (Int × Int)) (p : Int × Int) : Bool := livesB (decide (p ∈ l)) (nbr l p)
/-- a cell and its neighbours, row by row -/
def nine (c : Int × Int) : List (Int × Int) :=
  [(c.1 - 1, c.2 - 1), (c.1, c.2 - 1), (c.1 + 1, c.2 - 1), (c.1 - 1, c.2), (c.1, c.2), (c.1 + 1, c.2), (c.1 - 1, c.2 + 1), (c.1, c.2 + 1), (c.1 + 1, c.2 + 1)]
def cand (l : List (Int × Int)) : List (Int × Int) := l.flatMap nine
def nextL (l : List (Int × Int)) : List (Int × Int) := setL ((cand l).filter fun p => aliveB l p)

theorem mem_nine (c p : Int × Int) : p ∈ nine c ↔ -1 ≤ c.1 - p.1 ∧ c.1 - p.1 ≤ 1 ∧ -1 ≤ c.2 - p.2 ∧ c.2 - p.2 ≤ 1 := by
  obtain ⟨a, b⟩ := c
  obtain ⟨x, y⟩ := p
  simp only [nine, List.mem_cons, List.not_mem_nil, or_false, Prod.mk.injEq]
  omega
theorem mem_cand (l : List (Int × Int)) (p : Int × Int) : p ∈ cand l ↔ ∃ c ∈ l, -1 ≤ c.1 - p.1 ∧ c.1 - p.1 ≤ 1 ∧ -1 ≤ c.2 - p.2 ∧ c.2 - p.2 ≤ 1 := by
  unfold cand
  rw [List.mem_flatMap]
  constructor
  · rintro ⟨c, hc, h⟩; exact ⟨c, hc, (mem_nine c p).1 h⟩
  · rintro ⟨c, hc, h⟩; exact ⟨c, hc, (mem_nine c p).2 h⟩
theorem alive_cand {l : List (Int × Int)} {p : Int × Int} (h : aliveB l p = true) : p ∈ cand l := by
  rw [mem_cand]
  by_cases hp : p ∈ l
  · exact ⟨p, hp, by omega⟩
  · have h3 : nbr l p = 3 := by
      simp only [aliveB, livesB, hp, decide_false, Bool.false_and, Bool.or_false, decide_eq_true_eq] at h
      omega
    have hpos : 0 < l.countP fun c => nbB c p := by unfold nbr at h3; omega
    obtain ⟨c, hc, hn⟩ := List.countP_pos_iff.1 hpos
    simp only [nbB, decide_eq_true_eq] at hn
    exact ⟨c, hc, by omega⟩
theorem mem_nextL (l : List (Int × Int)) (p : Int × Int) : p ∈ nextL l ↔ aliveB l p = true := by
  unfold nextL
  rw [mem_setL, List.mem_filter]
  exact ⟨fun h => h.2, fun h => ⟨alive_cand h, h⟩⟩
theorem rises_nextL (l : List (Int × Int)) : Rises (nextL l) := rises_setL _

/-- what Of answers: an error's number, and a list -/
def ofR (l : List (Int × Int)) : Int × List (Int × Int) :=
  if (l.any fun p => !inB p) = true then (2, []) else if 2000 < (setL l).length then (3, []) else (0, setL l)
theorem any_ext {l m : List (Int × Int)} {f : Int × Int → Bool} (h : ∀ y, y ∈ l ↔ y ∈ m) : l.any f = m.any f := by
  rw [Bool.eq_iff_iff, List.any_eq_true, List.any_eq_true]
  constructor
  · rintro ⟨x, hx, e⟩; exact ⟨x, (h x).1 hx, e⟩
  · rintro ⟨x, hx, e⟩; exact ⟨x, (h x).2 hx, e⟩
theorem ofR_ext {l m : List (Int × Int)} (h : ∀ y, y ∈ l ↔ y ∈ m) : ofR l = ofR m := by
  unfold ofR
  rw [any_ext h, setL_ext h]
theorem ofR_len (l : List (Int × Int)) : (ofR l).2.length ≤ 2000 := by
  unfold ofR
  split
  · exact Nat.zero_le _
  · split
    · exact Nat.zero_le _
    · simp only; omega

def nextR (l : List (Int × Int)) : Int × List (Int × Int) := if rightB l = true then ofR (nextL l) else (1, [])
theorem nextR_bad {l : List (Int × Int)} (h : rightB l = false) : nextR l = (1, []) := by unfold nextR; rw [h]; rfl
theorem nextR_yes {l : List (Int × Int)} (h : rightB l = true) : nextR l = ofR (nextL l) := by unfold nextR; rw [if_pos h]
/-- some generations -/
def runR : Nat → List (Int × Int) → Int × List (Int × Int)
  | 0, l => (0, l)
  | n + 1, l => if (nextR l).1 = 0 then runR n (nextR l).2 else (nextR l).1 |> fun e => (e, [])
def runA (l : List (Int × Int)) (n : Int) : Int × List (Int × Int) := if rightB l = true ∧ 0 ≤ n ∧ n ≤ 1000 then runR n.toNat l else (1, [])

theorem nextR_errs (l : List (Int × Int)) : (nextR l).1 = 0 ∨ (nextR l).1 = 1 ∨ (nextR l).1 = 2 ∨ (nextR l).1 = 3 := by
  unfold nextR ofR
  split
  · split
    · simp
    · split <;> simp
  · simp
theorem nextR_err_nil {l : List (Int × Int)} (h : (nextR l).1 ≠ 0) : (nextR l).2 = [] := by
  unfold nextR ofR at *
  split at h <;> rename_i h1
  · split at h <;> rename_i h2
    · rw [if_pos h1, if_pos h2]
    · split at h <;> rename_i h3
      · rw [if_pos h1, if_neg h2, if_pos h3]
      · exact absurd rfl h
  · rw [if_neg h1]
theorem nextR_right {l : List (Int × Int)} (h : (nextR l).1 = 0) : rightB (nextR l).2 = true := by
  unfold nextR ofR at *
  split at h <;> rename_i h1
  · rw [if_pos h1]
    split at h <;> rename_i h2
    · exact absurd h (by decide)
    · rw [if_neg h2]
      split at h <;> rename_i h3
      · exact absurd h (by decide)
      · rw [if_neg h3]
        refine (rightB_iff _).2 ⟨by simp only; omega, fun c hc => ?_, rises_setL _⟩
        have hc' : c ∈ nextL l := (mem_setL _ _).1 hc
        cases hin : inB c
        · exact absurd (List.any_eq_true.2 ⟨c, hc', by rw [hin]; rfl⟩) h2
        · rfl
  · exact absurd h (by decide)
theorem runR_zero (l : List (Int × Int)) : runR 0 l = (0, l) := rfl
theorem runR_succ (n : Nat) (l : List (Int × Int)) : runR (n + 1) l = if (nextR l).1 = 0 then runR n (nextR l).2 else ((nextR l).1, []) := rfl
theorem runR_err {l : List (Int × Int)} (h : (nextR l).1 ≠ 0) (n : Nat) : runR (n + 1) l = ((nextR l).1, []) := by rw [runR_succ, if_neg h]
theorem runR_ok {l : List (Int × Int)} (h : (nextR l).1 = 0) (n : Nat) : runR (n + 1) l = runR n (nextR l).2 := by rw [runR_succ, if_pos h]
theorem runR_add (n m : Nat) (l : List (Int × Int)) (h : (runR n l).1 = 0) : runR (n + m) l = runR m (runR n l).2 := by
  induction n generalizing l with
  | zero => rw [Nat.zero_add]; rfl
  | succ n ih =>
    by_cases h0 : (nextR l).1 = 0
    · rw [runR_ok h0] at h ⊢
      rw [show n + 1 + m = (n + m) + 1 by omega, runR_ok h0]
      exact ih _ h
    · rw [runR_err h0] at h
      exact absurd h h0

/-! ### where a generation reaches -/

/-- a box that holds a list -/
def InBox (a b c d : Int) (l : List (Int × Int)) : Prop := ∀ p ∈ l, a ≤ p.1 ∧ p.1 ≤ b ∧ c ≤ p.2 ∧ p.2 ≤ d
theorem next_box {a b c d : Int} {l : List (Int × Int)} (h : InBox a b c d l) : InBox (a - 1) (b + 1) (c - 1) (d + 1) (nextL l) := by
  intro p hp
  obtain ⟨q, hq, hn⟩ := (mem_cand l p).1 (alive_cand ((mem_nextL l p).1 hp))
  have := h q hq
  omega

theorem length_le_of_subset {α : Type} [DecidableEq α] : ∀ (l m : List α), l.Nodup → (∀ y ∈ l, y ∈ m) → l.length ≤ m.length
  | [], _, _, _ => Nat.zero_le _
  | x :: l, m, hn, h => by
    obtain ⟨h1, h2⟩ := List.nodup_cons.1 hn
    have hx : x ∈ m := h x (by simp)
    have := length_le_of_subset l (m.erase x) h2 fun y hy => by
      have hne : y ≠ x := fun e => h1 (e ▸ hy)
      exact (List.mem_erase_of_ne hne).2 (h y (by simp [hy]))
    rw [List.length_erase_of_mem hx] at this
    have hpos := List.length_pos_of_mem hx
    simp only [List.length_cons]
    omega
theorem rises_nodup {l : List (Int × Int)} (h : Rises l) : l.Nodup := by
  refine List.Pairwise.imp ?_ h
  intro p q hpq e
  rw [e, lessB_irrefl] at hpq
  cases hpq

/-- all cells of a box -/
def boxL (a c : Int) (w h : Nat) : List (Int × Int) := (List.range h).flatMap fun (j : Nat) => (List.range w).map fun (i : Nat) => (a + (i : Int), c + (j : Int))
theorem mem_boxL {a c : Int} {w h : Nat} {p : Int × Int} (h1 : a ≤ p.1 ∧ p.1 < a + w ∧ c ≤ p.2 ∧ p.2 < c + h) : p ∈ boxL a c w h := by
  unfold boxL
  rw [List.mem_flatMap]
  refine ⟨(p.2 - c).toNat, List.mem_range.2 (by omega), List.mem_map.2 ⟨(p.1 - a).toNat, List.mem_range.2 (by omega), ?_⟩⟩
  obtain ⟨x, y⟩ := p
  simp only at h1
  simp only [Prod.mk.injEq]
  omega
theorem length_boxL (a c : Int) (w h : Nat) : (boxL a c w h).length = h * w := by
  unfold boxL
  rw [List.length_flatMap]
  simp only [List.length_map, List.length_range]
  induction h with
  | zero => simp
  | succ h ih => rw [List.range_succ, List.map_append, List.sum_append, ih]; simp [Nat.succ_mul]
theorem box_len {a b c d : Int} {l : List (Int × Int)} (h : InBox a b c d l) (hs : Rises l) (w t : Nat) (hw : b < a + w) (ht : d < c + t) : l.length ≤ t * w := by
  rw [← length_boxL a c w t]
  refine length_le_of_subset _ _ (rises_nodup hs) fun p hp => mem_boxL ?_
  have := h p hp
  omega

/-- A generation within bounds that is not too long is one. -/
theorem nextR_ok {l : List (Int × Int)} (h : rightB l = true) (hin : ∀ p ∈ nextL l, inB p = true) (hl : (nextL l).length ≤ 2000) : nextR l = (0, nextL l) := by
  rw [nextR_yes h]
  unfold ofR
  rw [if_neg, setL_of_rises (rises_nextL l), if_neg (by omega)]
  rw [List.any_eq_true]
  rintro ⟨p, hp, e⟩
  rw [hin p hp] at e
  cases e

/-- generations of lists, without bounds -/
def iterL : Nat → List (Int × Int) → List (Int × Int)
  | 0, l => l
  | n + 1, l => iterL n (nextL l)
theorem iterL_succ (n : Nat) (l : List (Int × Int)) : iterL (n + 1) l = nextL (iterL n l) := by
  induction n generalizing l with
  | zero => rfl
  | succ n ih => exact ih (nextL l)
theorem iterL_add (n m : Nat) (l : List (Int × Int)) : iterL (n + m) l = iterL m (iterL n l) := by
  induction n generalizing l with
  | zero => rw [Nat.zero_add]; rfl
  | succ n ih => rw [show n + 1 + m = (n + m) + 1 by omega]; exact ih (nextL l)
theorem iter_box {a b c d : Int} {l : List (Int × Int)} (h : InBox a b c d l) (n : Nat) : InBox (a - n) (b + n) (c - n) (d + n) (iterL n l) := by
  induction n with
  | zero => intro p hp; have := h p hp; simp; omega
  | succ n ih =>
    rw [iterL_succ]
    have := next_box ih
    intro p hp
    have := this p hp
    push_cast
    omega
theorem rises_iterL {l : List (Int × Int)} (h : Rises l) (n : Nat) : Rises (iterL n l) := by
  cases n with
  | zero => exact h
  | succ n => rw [iterL_succ]; exact rises_nextL _
/-- so many generations, as long as none is too long, nor out of bounds. -/
theorem runR_iter (n : Nat) (l : List (Int × Int)) (h : rightB l = true) (hk : ∀ k, 0 < k → k ≤ n → (∀ p ∈ iterL k l, inB p = true) ∧ (iterL k l).length ≤ 2000) : runR n l = (0, iterL n l) := by
  induction n generalizing l with
  | zero => rfl
  | succ n ih =>
    have h1 := hk 1 (by omega) (by omega)
    have e : nextR l = (0, nextL l) := nextR_ok h h1.1 h1.2
    rw [runR_ok (by rw [e]), e]
    refine ih (nextL l) ((rightB_iff _).2 ⟨h1.2, h1.1, rises_nextL l⟩) fun k h0 hkn => ?_
    exact hk (k + 1) (by omega) (by omega)

end Go.Proofs.Ytikgnjcjbjafaaa.Cel
namespace Go.Proofs.Ytikgnjcjbjafaaa.Cel
set_option linter.unusedVariables false
set_option linter.unusedSimpArgs false
open Go.RowKit Go.Sort Go.ChangeShapes Go.WideShapes Go.ChangeAt
open Go.Maps (Keyed)

theorem cellKeyed : Keyed Try.prog 32 :=
  Keyed.of_law (deep_law_laid laidOut (m := 2) (by omega) (of_decide_eq_true (by kernel_rfl)) (by kernel_rfl) (by rw [Try.underlying32]))

/-- what a cell reads as, as a key -/
def kl (p : Int × Int) : Lit := .string (keyBytes [.int .i64 p.1, .int .i64 p.2])
theorem wf_of_i64 {a : Int} (h : I64 a) : (Lit.int .i64 a).wf = true := by
  unfold I64 at h
  simp only [Lit.wf, IntKind.min, IntKind.max, IntKind.signed, IntKind.bits]
  simp
  omega
theorem keyOf_cell {p : Int × Int} (h1 : I64 p.1) (h2 : I64 p.2) : keyOf Try.prog 32 (.agg #[.int .i64 p.1, .int .i64 p.2]) = some (kl p) := by
  have hkt : Try.prog.keyType 32 = true := by kernel_rfl
  have hsz : ∃ m, Try.prog.types.size = m + 1 := ⟨Try.prog.types.size - 1, by have : 0 < Try.prog.types.size := of_decide_eq_true (by kernel_rfl); omega⟩
  have hc2 : Try.prog.cellsOf 32 = 2 := by kernel_rfl
  have hc1 : Try.prog.cellsOf 3 = 1 := by kernel_rfl
  obtain ⟨m, hm⟩ := hsz
  have w1 := wf_of_i64 h1
  have w2 := wf_of_i64 h2
  unfold keyOf
  simp only [Try.underlying32]
  rw [if_pos (by simp [hkt, Value.formed, Try.underlying32, hc2]), hm]
  unfold Program.keyLits
  simp only [Try.underlying32, Value.cells]
  rw [if_pos (by rw [hc2]; simp)]
  simp [hc1, Program.keyLits, Try.underlying3, w1, w2, kl]

theorem key_cell {v : Value} {l : Lit} (h : keyOf Try.prog 32 v = some l) : ∃ p : Int × Int, I64 p.1 ∧ I64 p.2 ∧ v = .agg #[.int .i64 p.1, .int .i64 p.2] ∧ l = kl p := by
  obtain ⟨xs, L, rfl, hl, rfl⟩ := keyOf_top (by rw [Try.underlying32]) h
  have hsz : ∃ m, Try.prog.types.size = m + 1 := ⟨Try.prog.types.size - 1, by have : 0 < Try.prog.types.size := of_decide_eq_true (by kernel_rfl); omega⟩
  have hc2 : Try.prog.cellsOf 32 = 2 := by kernel_rfl
  have hc1 : Try.prog.cellsOf 3 = 1 := by kernel_rfl
  obtain ⟨m, hm⟩ := hsz
  rw [hm] at hl
  unfold Program.keyLits at hl
  simp only [Try.underlying32, hc2, hc1] at hl
  split at hl
  · rename_i hlen
    obtain ⟨xs⟩ := xs
    simp only at hlen hl
    clear h hm
    rcases xs with _ | ⟨a, _ | ⟨b, _ | ⟨c, xs⟩⟩⟩
    · simp at hlen
    · simp at hlen
    · simp [Program.keyLits, Try.underlying3, List.mapM_cons, hc1] at hl
      cases a <;> cases b <;> (try simp [Option.bind_eq_some_iff] at hl)
      rename_i q1 n1 q2 n2
      obtain ⟨_, ⟨⟨rfl, w1⟩, rfl⟩, _, ⟨_, ⟨⟨rfl, w2⟩, rfl⟩, rfl⟩, rfl⟩ := hl
      exact ⟨(n1, n2), i64_of_wf w1, i64_of_wf w2, rfl, rfl⟩
    · simp at hlen
  · cases hl

theorem kl_inj {p q : Int × Int} (hp1 : I64 p.1) (hp2 : I64 p.2) (hq1 : I64 q.1) (hq2 : I64 q.2) (h : kl p = kl q) : p = q := by
  have h1 := keyOf_cell hp1 hp2
  have h2 := keyOf_cell hq1 hq2
  rw [← h] at h2
  have := cellKeyed.inj h1 h2
  obtain ⟨a, b⟩ := p
  obtain ⟨c, d⟩ := q
  simpa using this

/-- How an element reads: as one number, twice the neighbours and one if it is alive. -/
def nearR (v : Value) : Option (DataW Unit × List MemPlace) :=
  match v with
  | .agg cs => (match cs.toList with | [.bool b, .int .i64 n] => some (.lit (.int .i64 (2 * n + if b then 1 else 0)), []) | _ => none)
  | _ => none
theorem nearR_mk (b : Bool) (n : Int) : nearR (.agg #[.bool b, .int .i64 n]) = some (.lit (.int .i64 (2 * n + if b then 1 else 0)), []) := rfl
theorem nearR_inv {v : Value} {y : DataW Unit × List MemPlace} (h : nearR v = some y) : ∃ p : Bool × Int, v = .agg #[.bool p.1, .int .i64 p.2] ∧ y = (.lit (.int .i64 (2 * p.2 + if p.1 then 1 else 0)), []) := by
  unfold nearR at h
  split at h
  · rename_i cs
    split at h
    · rename_i b n e
      obtain ⟨l⟩ := cs
      simp only at e
      subst e
      injection h with h
      exact ⟨(b, n), rfl, h.symm⟩
    · cases h
  · cases h
theorem code_inj {b c : Bool} {n m : Int} (h : (DataW.lit (.int .i64 (2 * n + if b then 1 else 0)) : DataW Unit) = .lit (.int .i64 (2 * m + if c then 1 else 0))) : b = c ∧ n = m := by
  have h' : (2 * n + if b then (1 : Int) else 0) = 2 * m + if c then 1 else 0 := by simpa using h
  cases b <;> cases c <;> simp at h' ⊢ <;> omega

/-- so many counts, in the order in which they come: where; whether of the cell itself -/
abbrev Evs := List ((Int × Int) × Bool)
def aliveE (E : Evs) (p : Int × Int) : Bool := E.any fun e => decide (e.1 = p) && e.2
def countE (E : Evs) (p : Int × Int) : Nat := E.countP fun e => decide (e.1 = p) && !e.2
def zeroD : DataW Unit := .lit (.int .i64 0)
/-- What a map says behind some counts. -/
def Tells (D : DataW Unit) (E : Evs) : Prop := Maps.IsMap D ∧ ∀ p : Int × Int, I64 p.1 → I64 p.2 →
  (Maps.has D (kl p) = E.any fun e => decide (e.1 = p)) ∧ D.atKey (kl p) zeroD = .lit (.int .i64 (2 * (countE E p : Int) + if aliveE E p then 1 else 0))
theorem tells_nil : Tells (.map []) [] := ⟨Maps.isMap_empty, fun p _ _ => ⟨rfl, rfl⟩⟩
theorem tells_put {D : DataW Unit} {E : Evs} {p : Int × Int} {b : Bool} {d : DataW Unit} (h : Tells D E) (h1 : I64 p.1) (h2 : I64 p.2)
    (hd : d = .lit (.int .i64 (2 * (countE (E ++ [(p, b)]) p : Int) + if aliveE (E ++ [(p, b)]) p then 1 else 0))) : Tells (D.put (kl p) d) (E ++ [(p, b)]) := by
  refine ⟨h.1.put _ _, fun q g1 g2 => ?_⟩
  have hk : WideAt.IsKeyLit (kl p) := cellKeyed.key (keyOf_cell h1 h2)
  by_cases e : q = p
  · subst e
    exact ⟨by rw [Maps.has_put_same h.1 hk]; simp, by rw [Maps.atKey_put_same h.1 hk, hd]⟩
  · have hne : kl q ≠ kl p := fun e' => e (kl_inj g1 g2 h1 h2 e')
    have e' : ¬ p = q := fun x => e x.symm
    obtain ⟨k1, k2⟩ := h.2 q g1 g2
    refine ⟨by rw [Maps.has_put_other hne, k1]; simp [e'], ?_⟩
    rw [Maps.atKey_put_other hne, k2]
    simp [aliveE, countE, List.countP_append, List.any_append, e']
theorem code_on (E : Evs) (p : Int × Int) : (2 * (countE E p : Int) + if (true : Bool) then (1 : Int) else 0) = 2 * (countE (E ++ [(p, true)]) p : Int) + if aliveE (E ++ [(p, true)]) p then 1 else 0 := by
  simp [aliveE, countE, List.countP_append, List.any_append]
theorem code_off (E : Evs) (p : Int × Int) : (2 * ((countE E p : Int) + 1) + if aliveE E p then (1 : Int) else 0) = 2 * (countE (E ++ [(p, false)]) p : Int) + if aliveE (E ++ [(p, false)]) p then 1 else 0 := by
  simp [aliveE, countE, List.countP_append, List.any_append]

/-! ### the counts of a set -/
/-- the counts about one cell -/
def nineE (c : Int × Int) : Evs := (nine c).map fun p => (p, decide (p = c))
def evs (l : List (Int × Int)) : Evs := l.flatMap nineE
theorem evs_any (l : List (Int × Int)) (p : Int × Int) : ((evs l).any fun e => decide (e.1 = p)) = true ↔ p ∈ cand l := by
  unfold evs nineE cand
  rw [List.any_eq_true]
  constructor
  · rintro ⟨e, he, h⟩
    obtain ⟨c, hc, h2⟩ := List.mem_flatMap.1 he
    obtain ⟨q, hq, rfl⟩ := List.mem_map.1 h2
    simp only [decide_eq_true_eq] at h
    subst h
    exact List.mem_flatMap.2 ⟨c, hc, hq⟩
  · intro h
    obtain ⟨c, hc, hq⟩ := List.mem_flatMap.1 h
    exact ⟨(p, decide (p = c)), List.mem_flatMap.2 ⟨c, hc, List.mem_map.2 ⟨p, hq, rfl⟩⟩, by simp⟩
theorem alive_evs (l : List (Int × Int)) (p : Int × Int) : aliveE (evs l) p = decide (p ∈ l) := by
  rw [Bool.eq_iff_iff, decide_eq_true_eq]
  unfold aliveE evs nineE
  rw [List.any_eq_true]
  constructor
  · rintro ⟨e, he, h⟩
    obtain ⟨c, hc, h2⟩ := List.mem_flatMap.1 he
    obtain ⟨q, hq, rfl⟩ := List.mem_map.1 h2
    simp only [Bool.and_eq_true, decide_eq_true_eq] at h
    obtain ⟨rfl, rfl⟩ := h
    exact hc
  · intro h
    exact ⟨(p, decide (p = p)), List.mem_flatMap.2 ⟨p, h, List.mem_map.2 ⟨p, (mem_nine p p).2 (by omega), rfl⟩⟩, by simp⟩
theorem count_nineE (c p : Int × Int) : countE (nineE c) p = if nbB c p then 1 else 0 := by
  obtain ⟨a, b⟩ := c
  obtain ⟨x, y⟩ := p
  by_cases h : nbB (a, b) (x, y) = true
  · rw [if_pos h]
    simp only [nbB, decide_eq_true_eq, ne_eq, Prod.mk.injEq] at h
    have hx : x = a - 1 ∨ x = a ∨ x = a + 1 := by omega
    have hy : y = b - 1 ∨ y = b ∨ y = b + 1 := by omega
    rcases hx with rfl | rfl | rfl <;> rcases hy with rfl | rfl | rfl <;> simp [countE, nineE, nine, List.countP_cons] <;> (repeat' split) <;> omega
  · rw [if_neg h]
    simp only [nbB, decide_eq_true_eq, ne_eq, Prod.mk.injEq] at h
    unfold countE
    rw [List.countP_eq_zero]
    intro e he
    obtain ⟨q, hq, rfl⟩ := List.mem_map.1 he
    have := (mem_nine _ _).1 hq
    simp only [Bool.and_eq_true, decide_eq_true_eq, Bool.not_eq_true', decide_eq_false_iff_not, not_and, Decidable.not_not]
    rintro rfl
    simp only at this
    simp only [Prod.mk.injEq]
    omega
theorem count_evs (l : List (Int × Int)) (p : Int × Int) : countE (evs l) p = nbr l p := by
  unfold nbr
  induction l with
  | nil => rfl
  | cons c l ih =>
    have : countE (evs (c :: l)) p = countE (nineE c) p + countE (evs l) p := by
      unfold countE evs
      rw [List.flatMap_cons, List.countP_append]
    rw [this, ih, count_nineE, List.countP_cons]
    omega

/-- the counts of the first k cells, and of the next one's first t -/
def evTo (l : List (Int × Int)) (k t : Nat) : Evs := evs (l.take k) ++ (nineE (l.getD k (0, 0))).take t
theorem evTo_zero (l : List (Int × Int)) : evTo l 0 0 = [] := rfl
theorem evTo_nine {l : List (Int × Int)} {k : Nat} (hk : k < l.length) : evTo l k 9 = evTo l (k + 1) 0 := by
  unfold evTo
  rw [take_snoc hk]
  simp [evs, List.flatMap_append, nineE, nine]
theorem evTo_end (l : List (Int × Int)) : evTo l l.length 0 = evs l := by simp [evTo]
theorem evTo_step {l : List (Int × Int)} {k t : Nat} {x y : Int} (hxy : (x, y) = l.getD k (0, 0)) (i j : Nat) (hi : i < 3) (hj : j < 3) (ht : t = 3 * j + i) :
    evTo l k (t + 1) = evTo l k t ++ [((x + ((i : Int) - 1), y + ((j : Int) - 1)), decide (i = 1 ∧ j = 1))] := by
  unfold evTo
  rw [← hxy, List.append_assoc]
  congr 1
  subst ht
  have : i = 0 ∨ i = 1 ∨ i = 2 := by omega
  have : j = 0 ∨ j = 1 ∨ j = 2 := by omega
  rcases ‹i = 0 ∨ i = 1 ∨ i = 2› with rfl | rfl | rfl <;> rcases ‹j = 0 ∨ j = 1 ∨ j = 2› with rfl | rfl | rfl <;>
    simp [nineE, nine] <;> omega
theorem evTo_on {l : List (Int × Int)} {k : Nat} {x y : Int} (hxy : (x, y) = l.getD k (0, 0)) {v z : Int} (hv : -1 ≤ v ∧ v ≤ 1) (hz : -1 ≤ z ∧ z ≤ 1) :
    evTo l k (3 * (z + 1).toNat + (v + 1).toNat + 1) = evTo l k (3 * (z + 1).toNat + (v + 1).toNat) ++ [((x + v, y + z), decide (v = 0 ∧ z = 0))] := by
  have h := evTo_step hxy (v + 1).toNat (z + 1).toNat (by omega) (by omega) (t := 3 * (z + 1).toNat + (v + 1).toNat) rfl
  have e1 : (((v + 1).toNat : Nat) : Int) - 1 = v := by omega
  have e2 : (((z + 1).toNat : Nat) : Int) - 1 = z := by omega
  have e3 : decide ((v + 1).toNat = 1 ∧ (z + 1).toNat = 1) = decide (v = 0 ∧ z = 0) := by
    rw [Bool.eq_iff_iff, decide_eq_true_eq, decide_eq_true_eq]; omega
  rw [e1, e2, e3] at h
  exact h
theorem length_evTo (l : List (Int × Int)) (k t : Nat) : (evTo l k t).length ≤ 9 * k + t := by
  unfold evTo evs nineE nine
  simp only [List.length_append, List.length_flatMap, List.length_map, List.length_take, List.length_cons, List.length_nil]
  have : ((l.take k).map fun _ => 9).sum ≤ 9 * k := by
    induction k generalizing l with
    | zero => simp
    | succ k ih =>
      cases l with
      | nil => simp
      | cons a l => simp only [List.take_succ_cons, List.map_cons, List.sum_cons]; have := ih l; omega
  have h2 := this
  simp only [Nat.zero_add, Nat.reduceAdd]
  omega

end Go.Proofs.Ytikgnjcjbjafaaa.Cel
namespace Go.Proofs.Ytikgnjcjbjafaaa.Cel
set_option linter.unusedVariables false
set_option linter.unusedSimpArgs false
open Go.RowKit Go.Sort
open Go.Maps (Keyed)

/-- 'm[k]' at such a map, for the walk. -/
theorem wpList_lookup_near {P : Program} (w : World) {ops : Array Oper} {rest : List Oper} {o : Oper} {a : Act} {Q : Exit → Act → World → Prop}
    (hg : o.guard = none) (m x : Operand) (t : TypeId) (hop : o.op = Op.lookup t m x false)
    (k e : TypeId) (K : Keyed P k) (ht : P.underlying t = some (.map k e)) (hz : (zeroValue e).run P w = .ok (.agg #[.bool false, .int .i64 0]) w) (b n : Nat) (D : DataW Unit)
    (hm : a.eval m = .map (some b)) (hown : w.ownsMap P k nearR b n D) (key : Value) (kl : Lit) (hx : a.eval x = key) (hkey : keyOf P k key = some kl)
    (hK : ∀ (al : Bool) (c : Int), D.atKey kl zeroD = .lit (.int .i64 (2 * c + if al then 1 else 0)) → wpList P ops Q rest (a.put o.dst (.agg #[.bool al, .int .i64 c])) w) :
    wpList P ops Q (o :: rest) a w := by
  refine wpList_plain hg fun K' hK' => ?_
  obtain ⟨v, ps, hrun, hv⟩ := hown.lookup K ht hz (nearR_mk false 0) hkey
  obtain ⟨⟨al, c⟩, rfl, hy⟩ := nearR_inv hv
  unfold Oper.wp
  simp [execOp, hop, hm, hx, hrun, Result.andThen]
  exact hK' _ _ (hK al c (by injection hy))

theorem around_turn {w wr w1 : World} {o1 o2 : Obj} {bc : Nat} {u v : Value} (hb : Below w.heap.size w wr) (hlt : w.heap.size < bc) (hbc : bc < wr.heap.size) (d0 : wr.cell? ⟨bc, 0, none⟩ = some u) (d1 : wr.cell? ⟨bc, 1, none⟩ = some v)
    (hg : ((wr.alloc o1).alloc o2).grownBy w1 (some w.heap.size)) : w1.cell? ⟨bc, 0, none⟩ = some u ∧ w1.cell? ⟨bc, 1, none⟩ = some v ∧ Below w.heap.size w w1 ∧ bc < w1.heap.size := by
  have hal : ∀ a u, wr.cell? a = some u → ((wr.alloc o1).alloc o2).cell? a = some u := fun a u h =>
    (World.cell?_alloc_lt _ _ _ (by have := block_lt_of_cell h; simp; omega)).trans ((World.cell?_alloc_lt _ _ _ (block_lt_of_cell h)).trans h)
  have hne : ∀ o : Nat, some (⟨bc, o, none⟩ : Addr).block ≠ some w.heap.size := fun o e => by injection e with e; simp only at e; omega
  refine ⟨grown_cell hg (hal _ _ d0) (hne 0), grown_cell hg (hal _ _ d1) (hne 1), ((hb.alloc hb.size _).alloc (by have := hb.size; simp; omega) _).grown hg (by have := hb.size; simp; omega) (fun k e => by injection e with e; omega), ?_⟩
  have := hg.size
  simp at this
  omega

/-- what was found, in the proof's words -/
theorem near_found {D : DataW Unit} {E : Evs} {p : Int × Int} {al : Bool} {cn : Int} (h : Tells D E) (h1 : I64 p.1) (h2 : I64 p.2) (hat : D.atKey (kl p) zeroD = .lit (.int .i64 (2 * cn + if al = true then 1 else 0))) : al = aliveE E p ∧ cn = countE E p := by
  have e := (h.2 p h1 h2).2
  rw [hat] at e
  exact code_inj e
theorem countE_le (E : Evs) (p : Int × Int) : countE E p ≤ E.length := List.countP_le_length

theorem near_small {D : DataW Unit} {E : Evs} {p : Int × Int} {al : Bool} {cn : Int} (h : Tells D E) (h1 : I64 p.1) (h2 : I64 p.2) (hat : D.atKey (kl p) zeroD = .lit (.int .i64 (2 * cn + if al = true then 1 else 0))) (hl : E.length ≤ 100000) : 0 ≤ cn ∧ cn ≤ 100000 := by
  have e := (near_found h h1 h2 hat).2
  have := countE_le E p
  omega

theorem near_on {w1 : World} {B n t k : Nat} {l : List (Int × Int)} {D : DataW Unit} {d d' : DataW Unit} {p : Int × Int} {b : Bool} (hT : Tells D (evTo l k t)) (h1 : I64 p.1) (h2 : I64 p.2) (he : evTo l k (t + 1) = evTo l k t ++ [(p, b)])
    (hO : w1.ownsMap Try.prog 32 nearR B n (D.put (kl p) d)) (hd : d = d') (hd' : d' = .lit (.int .i64 (2 * (countE (evTo l k t ++ [(p, b)]) p : Int) + if aliveE (evTo l k t ++ [(p, b)]) p then 1 else 0))) {n' t' : Nat} (hn : n ≤ n') (ht : t' = t + 1) :
    ∃ D', Aside (w1.ownsMap Try.prog 32 nearR B n' D' ∧ Tells D' (evTo l k t')) := by
  subst hd ht
  rw [he]
  exact ⟨_, hO.mono hn, tells_put hT h1 h2 hd'⟩

/-- what comes of it: a map at a block of its own that tells the counts -/
def Around (l : List (Int × Int)) (w : World) (e : Ending) (w' : World) : Prop :=
  ∃ D, e = .returned (.map (some w.heap.size)) ∧ w'.ownsMap Try.prog 32 nearR w.heap.size (9 * l.length) D ∧ Hid (Tells D (evs l)) ∧ Below w.heap.size w w'

end Go.Proofs.Ytikgnjcjbjafaaa.Cel
namespace Go.Proofs.Ytikgnjcjbjafaaa.Cel
open Go.RowKit Go.Sort

/-- where a cell stands, or would stand, in a list that rises -/
structure Stands (l : List (Int × Int)) (t : Int × Int) (i : Nat) : Prop where
  le : i ≤ l.length
  low : ∀ j, j < i → lessB (l.getD j (0, 0)) t = true
  high : ∀ j, i ≤ j → j < l.length → lessB (l.getD j (0, 0)) t = false

def FoundAt (l : List (Int × Int)) (t : Int × Int) (w : World) (e : Ending) (w' : World) : Prop :=
  ∃ i, Stands l t i ∧ e = .returned (.tuple #[.int .i64 (i : Nat), .bool (decide (i < l.length ∧ l.getD i (0, 0) = t))]) ∧ Below w.heap.size w w'

theorem rises_get {l : List (Int × Int)} (h : Rises l) {i j : Nat} (hij : i < j) (hj : j < l.length) : lessB (l.getD i (0, 0)) (l.getD j (0, 0)) = true := by
  have := List.pairwise_iff_getElem.1 h i j (by omega) hj hij
  rw [List.getD_eq_getElem?_getD, List.getD_eq_getElem?_getD, List.getElem?_eq_getElem (by omega), List.getElem?_eq_getElem hj]
  exact this

end Go.Proofs.Ytikgnjcjbjafaaa.Cel
namespace Go.Proofs.Ytikgnjcjbjafaaa.Cel
open Go.RowKit Go.Sort

/-- clear of places behind the row: the row stays. -/
theorem clear_behind {P : Program} {w : World} {B T t g n cap k c : Nat} {l : List (Int × Int)} (h : Row w B T g k cap l) (hk : k < n) (hn : n ≤ cap) (ht : P.underlying t = some (.slice T)) (hv : ∀ w, (zeroValue T).run P w = .ok (.agg #[.int .i64 0, .int .i64 0]) w) :
    ∃ w', (∀ ty, (Builtin.clear_ #[t] ty #[.slice (some ⟨g, k * 2, none⟩) (n - k) c]).run P w = .ok (.tuple #[]) w') ∧ Row w' B T g k cap l ∧ Below B w w' := by
  obtain ⟨hl, hlen, h' | ⟨g', cap', cur, hvv, hB, hg, hnc, hcm, hcs, htake⟩⟩ := h
  · simp at h'
  · simp only [Value.slice.injEq, Option.some.injEq, Addr.mk.injEq, and_true, true_and] at hvv
    obtain ⟨rfl, rfl⟩ := hvv
    obtain ⟨Z, hZ⟩ : ∃ Z, Z = (Builtin.zeroCells #[.int .i64 0, .int .i64 0] (n - k)).toList := ⟨_, rfl⟩
    have hz1 : ∀ u ∈ Z, u.oneCell' = true := by
      intro u hu
      rw [hZ] at hu
      simp only [Builtin.zeroCells, Array.toList_map, List.mem_map] at hu
      obtain ⟨i, _, rfl⟩ := hu
      have : i % 2 = 0 ∨ i % 2 = 1 := by omega
      rcases this with h | h <;> simp [h] <;> rfl
    have hzl : Z.length = (n - k) * 2 := by rw [hZ]; simp [Builtin.zeroCells]
    have hle : k * 2 + 0 + (n - k) * 2 ≤ cur.size := by
      rw [hcs]
      have := Nat.mul_le_mul_right 2 hn
      omega
    have hst := run_storeCells_at P g (k * 2) T Z 0 cur w hg (by rw [hzl]; exact hle) hz1
    rw [hzl, Nat.add_zero] at hst
    refine ⟨w.setRow g (cur.toList.take (k * 2) ++ Z ++ cur.toList.drop (k * 2 + (n - k) * 2)).toArray, fun ty => ?_, ?_, ?_⟩
    · obtain ⟨m, hm⟩ : ∃ m, n - k = m + 1 := ⟨n - k - 1, by omega⟩
      rw [hm] at hst hZ ⊢
      simp only [Builtin.clear_]
      simp [run_underlying ht, hv, Value.cells, ← hZ, hst]
    · refine ⟨hl, hlen, .inr ⟨g, cap, _, rfl, hB, setRow_heap w g cur _ T _ hg, by omega, hcm, ?_, ?_⟩⟩
      · simp [hzl, hcs]
        have := Nat.mul_le_mul_right 2 hn
        omega
      · have hkc : k * 2 ≤ cur.toList.length := by rw [Array.length_toList, hcs]; have := Nat.mul_le_mul_right 2 hnc; omega
        show List.take (k * 2) (List.take (k * 2) cur.toList ++ Z ++ _) = _
        rw [List.append_assoc, List.take_append_of_le_length (by rw [List.length_take]; omega), List.take_take, Nat.min_self]
        exact htake
    · exact ⟨rfl, rfl, rfl, by simp, fun j hj => setRow_other w g j _ (by omega)⟩

theorem fl_cell1 (l : List (Int × Int)) : ∀ u ∈ fl l, u.oneCell' = true := by
  intro u hu
  simp only [fl, List.mem_flatMap] at hu
  obtain ⟨c, _, hu⟩ := hu
  simp at hu
  rcases hu with rfl | rfl <;> rfl
theorem fl_drop (l : List (Int × Int)) (k : Nat) : fl (l.drop k) = (fl l).drop (k * 2) := by
  have h1 : fl l = fl (l.take k) ++ fl (l.drop k) := by rw [← fl_append, List.take_append_drop]
  by_cases hk : k ≤ l.length
  · conv => rhs; rw [h1]
    have h2 : (fl (l.take k)).drop (k * 2) = [] := List.drop_eq_nil_of_le (by rw [length_fl, List.length_take]; omega)
    rw [List.drop_append_of_le_length (by rw [length_fl, List.length_take]; omega), h2, List.nil_append]
  · rw [List.drop_eq_nil_of_le (by omega), List.drop_eq_nil_of_le (by rw [length_fl]; omega)]; rfl

/-- The cells from place k on, where Go's 's[k:]' looks for them. -/
theorem Row.tail {w : World} {B T g n cap : Nat} {l : List (Int × Int)} (h : Row w B T g n cap l) (k : Nat) : ∀ j u, (fl (l.drop k))[j]? = some u → w.cell? ((⟨g, k * 2, none⟩ : Addr).add j) = some u := by
  intro j u hu
  rw [fl_drop, List.getElem?_drop] at hu
  have hj : k * 2 + j < n * 2 := by
    have := (List.getElem?_eq_some_iff.1 hu).1
    rwa [length_fl, h.1] at this
  rw [Addr.add_lit, World.ownsRow.cellAt h.2 _ hj]
  exact hu

/-- Behind Delete's append: the row, and what clear then does. -/
theorem delete_tail {w w1 w2 : World} {B g i m cap : Nat} {l : List (Int × Int)} (hl : l.length = i + 1 + m) (hg : B ≤ g ∧ g < w.heap.size) (hcap : i + 1 + m ≤ cap) (hb1 : Below w.heap.size w w1) (ho : w2.ownsRow B 122 2 (.slice (some ⟨g, 0, none⟩) (i + m) cap) (i + m) (fl (l.take i) ++ fl (l.drop (i + 1)))) (hgr : w1.grownBy w2 (some g)) :
    ∃ w3, (∀ ty, (Builtin.clear_ #[119] ty #[.slice (some ⟨g, (i + m) * 2, none⟩) (i + 1 + m - (i + m)) (cap - (i + m))]).run Try.prog w2 = .ok (.tuple #[]) w3) ∧ Hid (Row w3 B 122 g (i + m) cap (l.take i ++ l.drop (i + 1)) ∧ Below B w w3) := by
  have hr2 : Row w2 B 122 g (i + m) cap (l.take i ++ l.drop (i + 1)) := by
    refine ⟨?_, by rw [fl_append]; exact ho⟩
    rw [List.length_append, List.length_take, List.length_drop]
    omega
  have hBs : B ≤ w.heap.size := by omega
  have hb2 : Below B w w2 := (hb1.mono hBs).grown hgr (Nat.le_trans hBs hb1.size) (fun k e => by injection e with e; omega)
  obtain ⟨w3, hcl, hr3, hb3⟩ := clear_behind (P := Try.prog) (t := 119) (n := i + 1 + m) (c := cap - (i + m)) hr2 (by omega) hcap Try.underlying119 zeroPlace
  exact ⟨w3, hcl, hr3, hb2.trans hb3⟩

end Go.Proofs.Ytikgnjcjbjafaaa.Cel
namespace Go.Proofs.Ytikgnjcjbjafaaa.Cel
open Go.RowKit Go.Sort

theorem stands_found {l : List (Int × Int)} {t : Int × Int} {i : Nat} (hs : Rises l) (hi : i < l.length) (he : l.getD i (0, 0) = t) : l.take i ++ l.drop (i + 1) = outL t l := by
  have hsplit : l = l.take i ++ t :: l.drop (i + 1) := by
    conv => lhs; rw [← List.take_append_drop i l, drop_cons hi, he]
  have hp : Rises (l.take i ++ t :: l.drop (i + 1)) := by rw [← hsplit]; exact hs
  have hp2 := List.pairwise_append.1 hp
  conv => rhs; rw [outL, hsplit]
  rw [List.filter_append, List.filter_cons_of_neg (by simp)]
  congr 1
  · rw [List.filter_eq_self.2]
    intro y hy
    have := hp2.2.2 y hy t (List.mem_cons_self ..)
    simpa using lessB_ne this
  · rw [List.filter_eq_self.2]
    intro y hy
    have := (List.pairwise_cons.1 hp2.2.1).1 y hy
    simpa using (lessB_ne this).symm
theorem stands_not {l : List (Int × Int)} {t : Int × Int} {i : Nat} (hs : Rises l) (h : Stands l t i) (hn : ¬ (i < l.length ∧ l.getD i (0, 0) = t)) : t ∉ l := by
  intro ht
  obtain ⟨j, hj, he⟩ := List.getElem_of_mem ht
  have he' : l.getD j (0, 0) = t := by rw [List.getD_eq_getElem?_getD, List.getElem?_eq_getElem hj]; exact he
  by_cases hji : j < i
  · have := h.low j hji
    rw [he', lessB_irrefl] at this
    cases this
  · by_cases hij : j = i
    · subst hij; exact hn ⟨hj, he'⟩
    · have h1 := rises_get hs (i := i) (j := j) (by omega) hj
      rw [he'] at h1
      rw [h.high i (Nat.le_refl _) (by omega)] at h1
      cases h1
theorem outL_not {l : List (Int × Int)} {t : Int × Int} (h : t ∉ l) : outL t l = l := by
  rw [outL, List.filter_eq_self.2]
  intro y hy
  have : y ≠ t := fun e => h (e ▸ hy)
  simpa using this

theorem right_yes {A : Option Addr} {l : List (Int × Int)} {c : Nat} {w : World} (hR : Rd w w.heap.size A l) (hl : l.length ≤ 1000000) (hc : l.length ≤ c) (h : rightB l = true) :
    Calls Try.prog 110 #[.slice A l.length c] w fun e w' => e = .returned (.bool true) ∧ Below w.heap.size w w' := by
  have := right_any A l c w hR hl hc; rw [h] at this; exact this
theorem right_no {A : Option Addr} {l : List (Int × Int)} {c : Nat} {w : World} (hR : Rd w w.heap.size A l) (hl : l.length ≤ 1000000) (hc : l.length ≤ c) (h : rightB l = false) :
    Calls Try.prog 110 #[.slice A l.length c] w fun e w' => e = .returned (.bool false) ∧ Below w.heap.size w w' := by
  have := right_any A l c w hR hl hc; rw [h] at this; exact this

end Go.Proofs.Ytikgnjcjbjafaaa.Cel
namespace Go.Proofs.Ytikgnjcjbjafaaa.Cel
set_option linter.unusedVariables false
set_option linter.unusedSimpArgs false
open Go.RowKit Go.Sort
open Go.Maps (Keyed)

/-- an answer of a list and an error's number -/
def Ans (w : World) (r : Int × List (Int × Int)) (e : Ending) (w' : World) : Prop := ∃ v, e = .returned (.tuple #[v, .int .i64 r.1]) ∧ Reads w' v r.2 ∧ Below w.heap.size w w'

theorem Ans.nil {w w' : World} (n : Int) (hb : Below w.heap.size w w') : Ans w (n, []) (.returned (.tuple #[.slice none 0 0, .int .i64 n])) w' :=
  ⟨_, rfl, ⟨none, 0, rfl, Nat.le_refl _, Rd.nil _ _ _⟩, hb⟩
theorem Ans.after {w w1 w' : World} {r : Int × List (Int × Int)} {e : Ending} (h : Ans w1 r e w') (hb : Below w.heap.size w w1) : Ans w r e w' := by
  obtain ⟨v, he, hr, hb'⟩ := h
  exact ⟨v, he, hr, Qt.more hb hb.size hb'⟩

theorem of_ans (A : Option Addr) (l : List (Int × Int)) (c : Nat) (w : World) (hR : Rd w w.heap.size A l) (hl : l.length ≤ 1000000) (hc : l.length ≤ c) :
    Calls Try.prog 54 #[.slice A l.length c] w (Ans w (ofR l)) := by
  unfold ofR
  by_cases ho : (l.any fun p => !inB p) = true
  · rw [if_pos ho]
    refine (of_out A l c w hR hl hc ho).mono ?_
    rintro e w' ⟨rfl, hb⟩
    exact Ans.nil 2 hb
  · rw [if_neg ho]
    have ho' : (l.any fun p => !inB p) = false := by simpa using ho
    by_cases hs : 2000 < (setL l).length
    · rw [if_pos hs]
      refine (of_long A l c w hR hl hc ho' hs).mono ?_
      rintro e w' ⟨rfl, hb⟩
      exact Ans.nil 3 hb
    · rw [if_neg hs]
      refine (of_in A l c w hR hl hc ho' (by omega)).mono ?_
      rintro e w' ⟨g, rfl, hr, hb⟩
      exact ⟨_, rfl, ⟨_, _, rfl, Nat.le_refl _, hr.rd⟩, hb⟩

theorem lives_any (a : Bool) (n : Int) (w : World) : Calls Try.prog 120 #[.bool a, .int .i64 n] w fun e w' => e = .returned (.bool (livesB a n)) ∧ w = w' := by
  generalize hr : livesB a n = r
  have HR := Lib.hid hr
  clear hr
  go_enter Try.func120, Try.ntmps120
  go_wp2
  all_goals go_ret
  all_goals refine ⟨?_, rfl⟩
  all_goals (refine Qt.ret_bool ?_; rw [← HR.out]; simp_all [livesB])

/-- what has come out of the map so far -/
def Came (l : List (Int × Int)) (D : DataW Unit) (left : Lit → Bool) (out : List (Int × Int)) : Prop :=
  (∀ p ∈ out, aliveB l p = true) ∧ (∀ p : Int × Int, I64 p.1 → I64 p.2 → Maps.has D (kl p) = true → left (kl p) = false → aliveB l p = true → p ∈ out) ∧ ∀ z, left z = true → Maps.has D z = true

theorem came_end {l out : List (Int × Int)} {D : DataW Unit} {left : Lit → Bool} (h : Came l D left out) (hT : Tells D (evs l)) (hin : ∀ p ∈ l, inB p = true) (hleft : ∀ z, left z = false) : ∀ p, p ∈ out ↔ p ∈ nextL l := by
  intro p
  rw [mem_nextL]
  refine ⟨h.1 p, fun ha => ?_⟩
  have hc := alive_cand ha
  obtain ⟨q, hq, hn⟩ := (mem_cand l p).1 hc
  have hb := inB_bd (hin q hq)
  have i1 : I64 p.1 := ⟨by omega, by omega⟩
  have i2 : I64 p.2 := ⟨by omega, by omega⟩
  exact h.2.1 p i1 i2 (by rw [(hT.2 p i1 i2).1]; exact (evs_any l p).2 hc) (hleft _) ha
theorem came_start (l : List (Int × Int)) (D : DataW Unit) : Came l D (Maps.has D) [] :=
  ⟨fun p hp => absurd hp (by simp), fun p _ _ h1 h2 => (by rw [h1] at h2; cases h2), fun _ h => h⟩
theorem near_lives {l : List (Int × Int)} {D : DataW Unit} (hT : Tells D (evs l)) {x : Int × Int} {c : Bool × Int} {y : DataW Unit × List MemPlace} (i1 : I64 x.1) (i2 : I64 x.2) (hv : nearR (.agg #[.bool c.1, .int .i64 c.2]) = some y) (hat : ∀ zd, D.atKey (kl x) zd = y.1) :
    livesB c.1 c.2 = aliveB l x := by
  rw [nearR_mk] at hv
  injection hv with hv
  have e := hat zeroD
  rw [← hv] at e
  obtain ⟨ha, hc⟩ := near_found hT i1 i2 e
  rw [ha, hc, alive_evs, count_evs]
  rfl
theorem came_on {l out : List (Int × Int)} {D : DataW Unit} {left : Lit → Bool} {x : Int × Int} (h : Came l D left out) (i1 : I64 x.1) (i2 : I64 x.2) (b : Bool) (hb : aliveB l x = b) : Came l D (fun z => left z && !z.sameKey (kl x)) (if b then out ++ [x] else out) := by
  refine ⟨fun p hp => ?_, fun p j1 j2 hh hl ha => ?_, fun z hz => h.2.2 z (by simp only [Bool.and_eq_true] at hz; exact hz.1)⟩
  · cases b
    · exact h.1 p hp
    · simp only [if_true, List.mem_append, List.mem_singleton] at hp
      rcases hp with hp | rfl
      · exact h.1 p hp
      · exact hb
  · by_cases e : p = x
    · subst e
      rw [ha] at hb
      subst hb
      simp
    · have hne : (kl p).sameKey (kl x) = false := Maps.sameKey_ne fun e' => e (kl_inj j1 j2 i1 i2 e')
      simp only [hne, Bool.not_false, Bool.and_true] at hl
      have := h.2.1 p j1 j2 hh hl ha
      cases b <;> simp [this]

/-- the map's next entry, for the walk -/
theorem next_near {P : Program} (w : World) {ops : Array Oper} {rest : List Oper} {o : Oper} {a : Act} {Q : Exit → Act → World → Prop} (hg : o.guard = none) (it : Operand) (hop : o.op = Op.next it false) (hP : P = Try.prog) (b r n : Nat) (D : DataW Unit) (left : Lit → Bool) (cnt : Nat)
    (hit : a.eval it = .pointer (some ⟨r, 0, none⟩)) (h : w.ranges P 32 nearR b r n D left cnt)
    (hDone : cnt = 0 → (∀ kl, left kl = false) → wpList P ops Q rest (a.put o.dst (.tuple #[.bool false])) w)
    (hMore : ∀ (x : Int × Int) (c : Bool × Int) (y : DataW Unit × List MemPlace) (w' : World) (cnt' : Nat), I64 x.1 ∧ I64 x.2 ∧ nearR (.agg #[.bool c.1, .int .i64 c.2]) = some y ∧ (∀ zd, D.atKey (kl x) zd = y.1) → w'.ranges P 32 nearR b r n D (fun z => left z && !z.sameKey (kl x)) cnt' → cnt' < cnt →
      w.grownBy w' (some r) → w'.heap.size = w.heap.size → (Instr.entry (.pointer (some ⟨r, 0, none⟩))).run P w' = .ok (.tuple #[.agg #[.int .i64 x.1, .int .i64 x.2], .agg #[.bool c.1, .int .i64 c.2]]) w' → wpList P ops Q rest (a.put o.dst (.tuple #[.bool true, .agg #[.int .i64 x.1, .int .i64 x.2], .agg #[.bool c.1, .int .i64 c.2]])) w') :
    wpList P ops Q (o :: rest) a w := by
  subst hP
  refine wpList_next_ranges w hg it hop 32 cellKeyed nearR (fun x : Int × Int => .agg #[.int .i64 x.1, .int .i64 x.2]) (fun c : Bool × Int => .agg #[.bool c.1, .int .i64 c.2])
    (fun key kl' h => by obtain ⟨p, _, _, e, _⟩ := key_cell h; exact ⟨p, e⟩) (fun v y h => by obtain ⟨p, e, _⟩ := nearR_inv h; exact ⟨p, e⟩) b r n D left cnt hit h hDone ?_
  intro x c kl' y w' cnt' hkey hlk hv hat hrg hlt hgr hsz hen
  obtain ⟨p, i1, i2, e, rfl⟩ := key_cell hkey
  have : x = p := by
    obtain ⟨a, b⟩ := x
    obtain ⟨c, d⟩ := p
    simpa using e
  subst this
  exact hMore x c y w' cnt' ⟨i1, i2, hv, hat⟩ hrg hlt hgr hsz hen

/-- what stands beside an append's row stays -/
theorem came_push {w0 w w3 : World} {o1 o2 o3 : Obj} {b r n : Nat} {D : DataW Unit} {left : Lit → Bool} {cnt : Nat} {v v' : Value} {out : List (Int × Int)} {x : Int × Int} (hb : Below w0.heap.size w0 w) (hbr : b < r ∧ r < w.heap.size) (hw0 : w0.heap.size ≤ b) (h : w.ranges Try.prog 32 nearR b r n D left cnt)
    (hown : Own w (r + 1) 32 v out) (h3 : w3.ownsRow (r + 1) 32 2 v' (out.length + 1) (fl out ++ [.int .i64 x.1, .int .i64 x.2])) (hg : (((w.alloc o1).alloc o2).alloc o3).grownBy w3 v.ownBlock) :
    Own w3 (r + 1) 32 v' (out ++ [x]) ∧ w3.ranges Try.prog 32 nearR b r n D left cnt ∧ Below w0.heap.size w0 w3 ∧ r < w3.heap.size := by
  have hne : ∀ g, v.ownBlock = some g → r + 1 ≤ g := fun g e => (World.ownsRow.lt hown _ e).1
  have hsz := hb.size
  refine ⟨own_push h3, (((h.alloc _).alloc _).alloc _).kept hg (fun e => ?_) (fun e => ?_), (((hb.alloc hsz _).alloc (by simp; omega) _).alloc (by simp; omega) _).grown hg (by simp; omega) (fun k e => ?_), ?_⟩
  · have := hne _ e.symm; omega
  · have := hne _ e.symm; omega
  · have := hne _ e; omega
  · have := hg.size; simp at this; omega

theorem one_new2 {w : World} {o1 o2 : Obj} {T : Nat} {x y : Int} : ∀ j u, ([.int .i64 x, .int .i64 y] : List Value)[j]? = some u → (((w.alloc o1).alloc o2).alloc (.cells #[.int .i64 x, .int .i64 y] T)).cell? ((⟨w.heap.size + 1 + 1, 0, none⟩ : Addr).add j) = some u := by
  have h := @one_new ((w.alloc o1).alloc o2) T x y
  simpa using h

/-- nothing has come of this entry -/
theorem came_skip {w0 w : World} {o1 o2 : Obj} {b r n : Nat} {D : DataW Unit} {left : Lit → Bool} {cnt : Nat} {v : Value} {out : List (Int × Int)} (hb : Below w0.heap.size w0 w) (hbr : b < r ∧ r < w.heap.size) (h : w.ranges Try.prog 32 nearR b r n D left cnt)
    (hown : Own w (r + 1) 32 v out) :
    Own ((w.alloc o1).alloc o2) (r + 1) 32 v out ∧ ((w.alloc o1).alloc o2).ranges Try.prog 32 nearR b r n D left cnt ∧ Below w0.heap.size w0 ((w.alloc o1).alloc o2) ∧ r < ((w.alloc o1).alloc o2).heap.size :=
  have hsz := hb.size
  ⟨World.ownsRow.alloc (World.ownsRow.alloc hown _) _, (h.alloc _).alloc _, (hb.alloc hsz _).alloc (by simp; omega) _, by simp; omega⟩

end Go.Proofs.Ytikgnjcjbjafaaa.Cel
namespace Go.Proofs.Ytikgnjcjbjafaaa.Cel
set_option linter.unusedVariables false
set_option linter.unusedSimpArgs false
open Go.RowKit Go.Sort

theorem ofR_out {l : List (Int × Int)} {k : Nat} (hk : k < l.length) (h : inB (l.getD k (0, 0)) = false) : ofR l = (2, []) := by
  unfold ofR
  rw [if_pos]
  exact List.any_eq_true.2 ⟨_, getD_mem hk, by rw [h]; rfl⟩
theorem ofR_in {l : List (Int × Int)} (h : ∀ j, j < l.length → inB (l.getD j (0, 0)) = true) : ofR l = if 2000 < (setL l).length then (3, []) else (0, setL l) := by
  unfold ofR
  rw [if_neg]
  rw [List.any_eq_true]
  rintro ⟨p, hp, e⟩
  obtain ⟨j, hj, he⟩ := List.getElem_of_mem hp
  have := h j hj
  rw [List.getD_eq_getElem?_getD, List.getElem?_eq_getElem hj, Option.getD_some, he] at this
  rw [this] at e
  cases e

set_option maxHeartbeats 1000000 in
set_option maxRecDepth 100000 in
theorem refOf_any (A : Option Addr) (l : List (Int × Int)) (c : Nat) (w : World) (hR : Rd w w.heap.size A l) (hl : l.length ≤ 900000) (hc : l.length ≤ c) :
    Calls Try.prog 38 #[.slice A l.length c] w (Ans w (ofR l)) := by
  obtain ⟨r, hr⟩ : ∃ r, r = ofR l := ⟨_, rfl⟩
  rw [← hr]
  have HR := Lib.hid hr
  clear hr
  go_enter Try.func38, Try.ntmps38
  go_wp2
  go_loopw [4] (fun i wr => ∃ k : Nat, k ≤ l.length ∧ i = .int .i64 k ∧ Hid (∀ j, j < k → inB (l.getD j (0, 0)) = true) ∧ Below w.heap.size w wr) (fun i _ => l.length - (intOf i).toNat)
  case atStart => exact ⟨0, Nat.zero_le _, rfl, fun j hj => absurd hj (Nat.not_lt_zero j), Below.refl _ _⟩
  case round =>
    obtain ⟨k, hk, rfl, HK, hb⟩ := hrel
    by_cases hlt : k < l.length
    · have hltz : (k : Int) < (l.length : Int) := by omega
      obtain ⟨b, off, rfl, hbB, hcell⟩ := hR.at_ (by omega)
      obtain ⟨⟨x, y⟩, hxy⟩ : ∃ p, p = l.getD k (0, 0) := ⟨_, rfl⟩
      have a0 := (hcell k hlt).1
      have a1 := (hcell k hlt).2
      rw [← hxy] at a0 a1
      simp only at a0 a1
      have c0 := Qt.keep hb a0
      have c1 := Qt.keep hb a1
      have HXY := Lib.hid hxy
      clear hxy a0 a1 hcell
      cases hin : inB (x, y)
      · have E : Hid (ofR l = (2, [])) := ofR_out hlt (by rw [← HXY.out]; exact hin)
        go_wp2_with (go_at_call 57; refine (refIn_no (x, y) hin _).mono ?_; rintro e w1 ⟨rfl, hb1⟩)
        go_ret2
        rw [HR.out, E.out]
        exact Ans.nil 2 (Qt.more hb hb.size hb1)
      · go_wp2_with (go_at_call 57; refine (refIn_yes (x, y) hin _).mono ?_; rintro e w1 ⟨rfl, hb1⟩)
        go_roundw
        case measure => simp [intOf]; omega
        case rel =>
          refine ⟨k + 1, by omega, by go_num, (show Hid _ from fun j hj => ?_), Qt.more hb hb.size hb1⟩
          by_cases hjk : j = k
          · subst hjk; rw [← HXY.out]; exact hin
          · exact HK.out j (by omega)
    · have hltz : ¬ (k : Int) < (l.length : Int) := by omega
      have E := Lib.hid (ofR_in fun j hj => HK.out j (by omega))
      have HB := Lib.hid hb
      clear hb HK
      go_wp2
      go_loopw [5, 6] (fun v i wr => ∃ k : Nat, k ≤ l.length ∧ i = .int .i64 k ∧ Aside (Reads wr v (setL (l.take k)) ∧ Below w.heap.size w wr)) (fun _ i _ => l.length - (intOf i).toNat)
      case atStart => exact ⟨0, Nat.zero_le _, rfl, ⟨none, 0, rfl, Nat.le_refl _, Rd.nil _ _ _⟩, HB.out⟩
      case round =>
        obtain ⟨k, hk, rfl, HK⟩ := hrel
        obtain ⟨A', c', rfl, hc', hR'⟩ := HK.out.1
        have hlen : (setL (l.take k)).length ≤ k := Nat.le_trans (length_setL _) (by rw [List.length_take]; omega)
        by_cases hlt : k < l.length
        · have hltz : (k : Int) < (l.length : Int) := by omega
          obtain ⟨b, off, rfl, hbB, hcell⟩ := hR.at_ (by omega)
          obtain ⟨⟨x, y⟩, hxy⟩ : ∃ p, p = l.getD k (0, 0) := ⟨_, rfl⟩
          have a0 := (hcell k hlt).1
          have a1 := (hcell k hlt).2
          rw [← hxy] at a0 a1
          simp only at a0 a1
          have c0 := Qt.keep HK.out.2 a0
          have c1 := Qt.keep HK.out.2 a1
          have HT : Hid (setL (l.take (k + 1)) = putL (x, y) (setL (l.take k))) := (show setL (l.take (k + 1)) = putL (x, y) (setL (l.take k)) from by rw [take_snoc hlt, setL_snoc, ← hxy])
          clear hxy a0 a1 hcell
          obtain ⟨s, hs⟩ : ∃ s, s = setL (l.take k) := ⟨_, rfl⟩
          rw [← hs] at hR' hc' hlen HK HT ⊢
          clear hs
          go_wp2_with (go_at_call 39; refine (put_any A' s c' (x, y) _ hR' (by omega) hc').mono ?_; rintro e w1 ⟨v1, rfl, hown, hb1⟩; have HO := Lib.hid hown; have HB1 := Lib.hid hb1; clear hown hb1)
          go_roundw
          case measure => simp [intOf]; omega
          case rel =>
            obtain ⟨A2, c2, e2, h1, h2⟩ := HO.out.rd
            exact ⟨k + 1, by omega, by go_num, ⟨by rw [HT.out]; exact ⟨A2, c2, e2, h1, h2⟩, Qt.more HK.out.2 HK.out.2.size HB1.out⟩⟩
        · have hltz : ¬ (k : Int) < (l.length : Int) := by omega
          obtain rfl : k = l.length := by omega
          rw [List.take_length] at HK hR' hc' hlen ⊢
          by_cases hlong : 2000 < (setL l).length
          · have hz : (2000 : Int) < ((setL l).length : Int) := by omega
            have E2 : Hid (r = (3, [])) := (show r = (3, []) from by rw [HR.out, E.out, if_pos hlong])
            go_wp2
            go_ret2
            rw [E2.out]
            exact Ans.nil 3 HK.out.2
          · have hz : ¬ (2000 : Int) < ((setL l).length : Int) := by omega
            have E2 : Hid (r = (0, setL l)) := (show r = (0, setL l) from by rw [HR.out, E.out, if_neg hlong])
            go_wp2
            go_ret2
            rw [E2.out]
            exact ⟨_, rfl, ⟨A', c', rfl, hc', hR'⟩, HK.out.2⟩

end Go.Proofs.Ytikgnjcjbjafaaa.Cel
namespace Go.Proofs.Ytikgnjcjbjafaaa.Cel
open Go.RowKit Go.Sort

def shL (dx dy : Int) (l : List (Int × Int)) : List (Int × Int) := l.map fun c => (c.1 + dx, c.2 + dy)
theorem length_shL (dx dy : Int) (l : List (Int × Int)) : (shL dx dy l).length = l.length := List.length_map _
theorem getD_shL (dx dy : Int) (l : List (Int × Int)) {k : Nat} (hk : k < l.length) : (shL dx dy l).getD k (0, 0) = ((l.getD k (0, 0)).1 + dx, (l.getD k (0, 0)).2 + dy) := by
  rw [List.getD_eq_getElem?_getD, List.getD_eq_getElem?_getD, shL, List.getElem?_map, List.getElem?_eq_getElem hk]
  rfl

theorem inB_iff (p : Int × Int) : inB p = true ↔ -1099511627776 ≤ p.1 ∧ p.1 ≤ 1099511627776 ∧ -1099511627776 ≤ p.2 ∧ p.2 ≤ 1099511627776 := by simp [inB]

/-- What went round is not within bounds either. -/
theorem inB_wrap {x y dx dy : Int} (h : inB (x, y) = true) (hdx : -9223372036854775808 ≤ dx ∧ dx ≤ 9223372036854775807) (hdy : -9223372036854775808 ≤ dy ∧ dy ≤ 9223372036854775807) (hn : inB (x + dx, y + dy) = false) : inB (wrap64 (x + dx), wrap64 (y + dy)) = false := by
  rw [Bool.eq_false_iff] at hn ⊢
  intro h2
  apply hn
  rw [inB_iff] at h h2 ⊢
  simp only at h h2 ⊢
  unfold wrap64 at h2
  omega

/-- The world behind Shift: the set elsewhere, or what is said of bounds. -/
def Shifted (l : List (Int × Int)) (dx dy : Int) (w : World) (e : Ending) (w' : World) : Prop :=
  Below w.heap.size w w' ∧ if (shL dx dy l).all inB = true then ∃ g, e = .returned (.tuple #[.slice (some ⟨g, 0, none⟩) l.length l.length, .int .i64 0]) ∧ Row w' w.heap.size 32 g l.length l.length (shL dx dy l)
    else e = .returned (.tuple #[.slice none 0 0, .int .i64 2])

end Go.Proofs.Ytikgnjcjbjafaaa.Cel
namespace Go.Proofs.Ytikgnjcjbjafaaa.Cel
set_option linter.unusedVariables false
set_option linter.unusedSimpArgs false
open Go.RowKit Go.Sort

/-- what Shift answers -/
def shiftR (l : List (Int × Int)) (dx dy : Int) : Int × List (Int × Int) :=
  if rightB l = true then (if (shL dx dy l).all inB = true then (0, shL dx dy l) else (2, [])) else (1, [])

theorem push_one {w0 w2 w3 : World} {B T : Nat} {v v' : Value} {out : List (Int × Int)} {x y : Int} (hB : B ≤ w2.heap.size) (hb : Below B w0 w2) (hown : Own w2 B T v out) {o : Obj}
    (h3 : w3.ownsRow B T 2 v' (out.length + 1) (fl out ++ [.int .i64 x, .int .i64 y])) (hg : (w2.alloc o).grownBy w3 v.ownBlock) : Own w3 B T v' (out ++ [(x, y)]) ∧ Below B w0 w3 :=
  ⟨own_push h3, (hb.alloc hB _).grown hg (by simp; omega) (fun k e => (World.ownsRow.lt hown k e).1)⟩

/-- so many cells shifted -/
def shTo (dx dy : Int) (l : List (Int × Int)) (k : Nat) : List (Int × Int) := shL dx dy (l.take k)
theorem shTo_succ {dx dy : Int} {l : List (Int × Int)} {k : Nat} (hk : k < l.length) : shTo dx dy l (k + 1) = shTo dx dy l k ++ [((l.getD k (0, 0)).1 + dx, (l.getD k (0, 0)).2 + dy)] := by
  unfold shTo shL; rw [take_snoc hk, List.map_append]; rfl
theorem length_shTo (dx dy : Int) (l : List (Int × Int)) (k : Nat) : (shTo dx dy l k).length ≤ k := by
  unfold shTo; rw [length_shL, List.length_take]; omega
theorem sh_out {dx dy : Int} {l : List (Int × Int)} {k : Nat} {x y : Int} (hk : k < l.length) (hxy : (x, y) = l.getD k (0, 0)) (h : inB (x + dx, y + dy) = false) : (shL dx dy l).all inB = false := by
  rw [List.all_eq_false]
  refine ⟨(x + dx, y + dy), ?_, by rw [h]; exact Bool.false_ne_true⟩
  unfold shL
  exact List.mem_map.2 ⟨(x, y), by rw [hxy]; exact getD_mem hk, rfl⟩
theorem sh_in {dx dy : Int} {l : List (Int × Int)} (h : ∀ j, j < l.length → inB ((l.getD j (0, 0)).1 + dx, (l.getD j (0, 0)).2 + dy) = true) : (shL dx dy l).all inB = true := by
  rw [List.all_eq_true]
  intro p hp
  unfold shL at hp
  obtain ⟨q, hq, rfl⟩ := List.mem_map.1 hp
  obtain ⟨j, hj, he⟩ := List.getElem_of_mem hq
  have := h j hj
  rwa [List.getD_eq_getElem?_getD, List.getElem?_eq_getElem hj, Option.getD_some, he] at this
theorem inB_far {x y dx dy : Int} (h : inB (x, y) = true) (hf : dx < -2199023255552 ∨ 2199023255552 < dx ∨ dy < -2199023255552 ∨ 2199023255552 < dy) : inB (x + dx, y + dy) = false := by
  have := inB_bd h
  rw [Bool.eq_false_iff]
  intro h2
  have := inB_bd h2
  simp only at *
  omega

end Go.Proofs.Ytikgnjcjbjafaaa.Cel
