/-
  Texts that the claims of this seat share, part 15.
-/
import Derived.Test.YtcmdhochofoohaaB14
import Derived.Test.YtcmdhochofoohaaRows
import Derived.ProofKit
import Derived.OpenShut
import Derived.ChangeOld
import Derived.Deep.Slices
import Derived.Deep.Fields
import Derived.Test.YtcmdhochofoohaaB09
set_option linter.unusedVariables false
set_option linter.unusedSimpArgs false
namespace Go.Proofs.Ytcmdhochofoohaa.Cel
open Go.ChangeShapes Go.WideShapes Go.ChangeAt Go.RowKit Go.Deep

theorem exists_list {n : Nat} {Q : Nat → Int × Int → Prop} (h : ∀ i, i < n → ∃ p, Q i p) : ∃ l : List (Int × Int), l.length = n ∧ ∀ i, i < n → Q i (l.getD i (0, 0)) := by
  induction n with
  | zero => exact ⟨[], rfl, fun i hi => absurd hi (Nat.not_lt_zero i)⟩
  | succ n ih =>
    obtain ⟨l, hl, hq⟩ := ih fun i hi => h i (by omega)
    obtain ⟨p, hp⟩ := h n (by omega)
    refine ⟨l ++ [p], by simp [hl], fun i hi => ?_⟩
    by_cases hin : i < n
    · rw [List.getD_eq_getElem?_getD, List.getElem?_append_left (by omega), ← List.getD_eq_getElem?_getD]
      exact hq i hin
    · have : i = n := by omega
      subst this
      rw [List.getD_eq_getElem?_getD, List.getElem?_append_right (by omega), hl]
      simpa using hp

section
variable {H : Type} {enc : TypeId × Value → H} {w : World} {base : Nat} {spare : Nat → Bool} {held : Bool}

/-- An element of two cells, each a number. -/
def TwoInts (P : Program) (e : TypeId) : Prop := P.cellsOf e = 2 ∧ ∀ {H : Type} {enc : TypeId × Value → H} {w : World} {base : Nat} {spare : Nat → Bool} {held : Bool} (n : Nat) (cs : List Value) (y : DataW H × List MemPlace), DataW.trod enc P w base spare held n e cs = some y → ∃ a b, cs = [.int .i64 a, .int .i64 b] ∧ I64 a ∧ I64 b

theorem i64_of_wf {a : Int} (h : (Lit.int .i64 a).wf = true) : I64 a := by
  have : IntKind.i64.min ≤ a ∧ a ≤ IntKind.i64.max := by simpa [Lit.wf] using h
  simpa [I64, IntKind.min, IntKind.max, IntKind.signed, IntKind.bits] using this

theorem two_array {P : Program} {e t : TypeId} (he : P.underlying e = some (.array 2 t)) (ht : P.underlying t = some (.int .i64)) (h2 : P.cellsOf e = 2) (h1 : P.cellsOf t = 1) : TwoInts P e := by
  refine ⟨h2, fun n cs y h => ?_⟩
  obtain ⟨xs, m, _, _, hlen, hxl, hx⟩ := DataW.trod_array he h
  rw [h2] at hlen
  obtain ⟨a, b, rfl⟩ : ∃ a b, cs = [a, b] := by
    match cs, hlen with
    | [a, b], _ => exact ⟨a, b, rfl⟩
  have x0 := hx 0 (by omega)
  have x1 := hx 1 (by omega)
  rw [h1] at x0 x1
  rw [List.getElem?_eq_getElem (by omega)] at x0 x1
  obtain ⟨u, hu, _, wu⟩ := DataW.trod_int ht x0
  obtain ⟨v, hv, _, wv⟩ := DataW.trod_int ht x1
  simp at hu hv
  exact ⟨u, v, by rw [hu, hv], i64_of_wf wu, i64_of_wf wv⟩

theorem two_struct {P : Program} {e t : TypeId} {f0 f1 : Field} (he : P.underlying e = some (.struct #[f0, f1])) (h0 : f0.type = t) (h1 : f1.type = t) (ht : P.underlying t = some (.int .i64)) (hone : oneCellFields P #[f0, f1] = true) (h2 : P.cellsOf e = 2) : TwoInts P e := by
  refine ⟨h2, fun n cs y h => ?_⟩
  obtain ⟨ys, m, hn, hy, hlen, hyl, hf⟩ := DataW.trod_struct he h
  rw [h2] at hlen
  obtain ⟨a, b, rfl⟩ : ∃ a b, cs = [a, b] := by
    match cs, hlen with
    | [a, b], _ => exact ⟨a, b, rfl⟩
  obtain ⟨o0, k0⟩ := hone_of hone 0 f0 rfl
  obtain ⟨o1, k1⟩ := hone_of hone 1 f1 rfl
  have x0 := hf 0 f0 rfl
  have x1 := hf 1 f1 rfl
  have hyl' : ys.length = 2 := by simpa using hyl
  rw [o0, k0, h0, List.getElem?_eq_getElem (by omega)] at x0
  rw [o1, k1, h1, List.getElem?_eq_getElem (by omega)] at x1
  obtain ⟨u, hu, _, wu⟩ := DataW.trod_int ht x0
  obtain ⟨v, hv, _, wv⟩ := DataW.trod_int ht x1
  simp at hu hv
  exact ⟨u, v, by rw [hu, hv], i64_of_wf wu, i64_of_wf wv⟩

/-- A slice of such pairs that came in. -/
theorem open_pairs {P : Program} {t e : TypeId} {fuel : Nat} {a0 : Option Addr} {len0 cap0 : Nat} {x : DataW H × List MemPlace} (ht : P.underlying t = some (.slice e)) (he : TwoInts P e) (h : DataW.trod enc P w base spare held fuel t [.slice a0 len0 cap0] = some x) :
    ∃ l : List (Int × Int), l.length = len0 ∧ len0 ≤ cap0 ∧ cap0 ≤ maxLen ∧ Rd w w.heap.size a0 l ∧ ∀ p ∈ l, I64 p.1 ∧ I64 p.2 := by
  rcases open_slice ht h with ⟨hcs, _⟩ | ⟨a, len, cap, m, n, D, Pl, hcs, hb, hl, hm, hmm, _, hi⟩
  · simp at hcs
    obtain ⟨rfl, rfl, rfl⟩ := hcs
    exact ⟨[], rfl, Nat.le_refl _, by simp [maxLen], Rd.nil _ _ _, fun p hp => by cases hp⟩
  · simp at hcs
    obtain ⟨rfl, rfl, rfl⟩ := hcs
    have hlm : len0 ≤ m := by rw [hmm]; split <;> omega
    have hq : ∀ i, i < len0 → ∃ p : Int × Int, (w.cell? (a.add (i * 2)) = some (.int .i64 p.1) ∧ w.cell? ((a.add (i * 2)).add 1) = some (.int .i64 p.2)) ∧ I64 p.1 ∧ I64 p.2 := by
      intro i hi'
      obtain ⟨cs', hc, ht'⟩ := hi i (by omega)
      rw [he.1] at hc
      obtain ⟨u, v, rfl, wu, wv⟩ := he.2 _ _ _ ht'
      obtain ⟨_, _, hat⟩ := World.cells?_some hc
      have h0 := hat 0 (by omega)
      have h1 := hat 1 (by omega)
      refine ⟨(u, v), ⟨?_, ?_⟩, wu, wv⟩
      · simpa [Addr.add] using h0
      · simpa using h1
    obtain ⟨l, hll, hlq⟩ := exists_list hq
    refine ⟨l, hll, hl, hm, fun j hj => ?_, fun p hp => ?_⟩
    · obtain ⟨⟨c0, c1⟩, _⟩ := hlq j (by omega)
      obtain ⟨b, off, spot⟩ := a
      have hspot : spot = none := by
        have := (hlq 0 (by omega)).1.1
        simpa [Addr.add] using World.cell?_spot this
      subst hspot
      rw [Addr.add_lit] at c0 c1
      rw [Addr.add_lit] at c1
      exact ⟨b, off, rfl, block_lt_of_cell c0, c0, c1⟩
    · obtain ⟨j, hj, rfl⟩ := List.getElem_of_mem hp
      have := (hlq j (by omega)).2
      rwa [List.getD_eq_getElem?_getD, List.getElem?_eq_getElem hj] at this
end

theorem twoArr : TwoInts Try.prog 98 := two_array Try.underlying98 Try.underlying3 (by kernel_rfl) (by kernel_rfl)
theorem own : ownKnob Try.prog.godebug = none := by kernel_rfl
theorem laidOut : laidOutB Try.prog = true := by kernel_rfl

end Go.Proofs.Ytcmdhochofoohaa.Cel
namespace Go.Proofs.Ytcmdhochofoohaa
set_option maxRecDepth 100000
set_option linter.unusedVariables false
open Go.ChangeShapes Go.WideShapes Go.ChangeAt Go.RowKit Go.Deep
theorem num_in {H : Type} {enc : TypeId × Value → H} {w : World} {base : Nat} {spare : Nat → Bool} {held : Bool} {P : Program} {t : TypeId} {fuel : Nat} {cs : List Value} {x : DataW H × List MemPlace} (he : P.underlying t = some (.int .i64))
    (h : DataW.trod enc P w base spare held fuel t cs = some x) : ∃ a : Int, cs = [.int .i64 a] ∧ I64 a := by
  obtain ⟨a, hu, _, wu⟩ := DataW.trod_int he h
  exact ⟨a, hu, i64_wf6 wu⟩
theorem nums6_in {H : Type} {enc : TypeId × Value → H} {w : World} {base : Nat} {spare : Nat → Bool} {held : Bool} {fuel : Nat} {a0 : Option Addr} {len0 cap0 : Nat} {x : DataW H × List MemPlace}
    (h : DataW.trod enc Try.prog w base spare held fuel 28 [.slice a0 len0 cap0] = some x) : ∃ l : List Int, l.length = len0 ∧ len0 ≤ cap0 ∧ cap0 ≤ maxLen ∧ Now w a0 l ∧ ∀ j, j < l.length → I64 (l.getD j 0) := by
  obtain ⟨l, h1, h2, h3, h4, h5⟩ := els_in (fun a : Int => [.int .i64 a]) 0 I64 1 (by decide) (fun _ => rfl) Try.underlying28 (by kernel_rfl) (fun _ _ _ hy => num_in Try.underlying3 hy) h
  refine ⟨l, h1, h2, h3, fun j hj => ?_, h5⟩
  obtain ⟨b, off, e, hb, hc⟩ := h4 j hj
  have h0 := hc 0 (by decide)
  rw [Nat.mul_one, Nat.add_zero] at h0
  exact ⟨b, off, e, hb, h0⟩
theorem store_val {H : Type} {enc : TypeId × Value → H} {W : World} {base b0 : Nat} {spare : Nat → Bool} {held : Bool} {r : Reach} {v : Value} {d : DataW H} {ps : List MemPlace}
    (hv : Value.okWide Try.prog W r b0 25 v) (h : DataW.Trod enc Try.prog W base spare held 25 v d ps) :
    ∃ (a : Option Addr) (l : List Nd) (c : Nat) (room : Int), v = storeV a l.length c room ∧ l.length ≤ c ∧ c ≤ maxLen ∧ RdN W W.heap.size a l ∧ (∀ j, j < l.length → FineN (l.getD j deadN)) ∧ I64 room := by
  obtain ⟨xs, rfl, hsz⟩ := okWide_struct Try.underlying25 hv
  obtain ⟨fuel, hf⟩ := h
  obtain ⟨y0, y1, n, _, hl, k0, k1⟩ := trod_struct2 Try.underlying25 hf
  have hsz2 : xs.size = 2 := hsz.trans (by kernel_rfl)
  obtain ⟨x0, x1, rfl⟩ : ∃ x0 x1, xs = #[x0, x1] := by
    obtain ⟨l⟩ := xs
    match l, hsz2 with
    | [a, b], _ => exact ⟨a, b, rfl⟩
  have k0' : DataW.trod enc Try.prog W base spare held n 23 [x0] = some y0 := k0
  have k1' : DataW.trod enc Try.prog W base spare held n 3 [x1] = some y1 := k1
  obtain ⟨room, hroom, hI⟩ := num_in Try.underlying3 k1'
  have hx1 : x1 = .int .i64 room := by simpa using hroom
  subst hx1
  have hsl : ∃ a len cap, x0 = .slice a len cap := by
    rcases open_slice Try.underlying23 k0' with ⟨hcs, _⟩ | ⟨a, len, cap, m, k, D, Pl, hcs, _⟩
    · exact ⟨none, 0, 0, by simpa using hcs⟩
    · exact ⟨_, _, _, by simpa using hcs⟩
  obtain ⟨a, len, cap, rfl⟩ := hsl
  obtain ⟨l, rfl, h2, h3, h4, h5⟩ := nodes_in k0'
  exact ⟨a, l, cap, room, rfl, h2, h3, h4, h5, hI⟩
end Go.Proofs.Ytcmdhochofoohaa
