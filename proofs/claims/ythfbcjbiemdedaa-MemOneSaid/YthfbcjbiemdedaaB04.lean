/-
  Texts that the claims of this seat share, part 4.
-/
import Derived.Test.YthfbcjbiemdedaaB03
import Derived.Test.YthfbcjbiemdedaaB02
import Derived.Laws.Rows
import Derived.Test.YthfbcjbiemdedaaB00
import Derived.Deep.RegionWith
import Derived.ProofKit
import Derived.OpenShut
import Derived.ChangeOld
import Derived.Deep.Slices
import Derived.Deep.Fields
import Derived.Deep.Strs
import Derived.Test.YthfbcjbiemdedaaRows
import Derived.Lib.SmallJoins
set_option linter.unusedVariables false
set_option linter.unusedSimpArgs false
namespace Go.Proofs.Ythfbcjbiemdedaa
set_option linter.unusedVariables false
set_option linter.unusedSimpArgs false
open Go.RowKit Go.Sort

def rd5 (r : Raw5) : Nat → Int
  | 0 => r.1
  | 1 => r.2.1
  | 2 => r.2.2.1
  | 3 => r.2.2.2.1
  | _ => r.2.2.2.2
def Fine5 (r : Raw5) : Prop := I64 r.1 ∧ I64 r.2.1 ∧ I64 r.2.2.1 ∧ I64 r.2.2.2.1 ∧ I64 r.2.2.2.2
theorem Fine5.at_ {r : Raw5} (h : Fine5 r) : ∀ i, I64 (rd5 r i) := by
  intro i
  match i with
  | 0 => exact h.1
  | 1 => exact h.2.1
  | 2 => exact h.2.2.1
  | 3 => exact h.2.2.2.1
  | n + 4 => exact h.2.2.2.2
section
variable {w wr w' : World} {A : Option Addr} {n c : Nat} {room : Int} {r : Raw5}
end
end Go.Proofs.Ythfbcjbiemdedaa
namespace Go.Proofs.Ythfbcjbiemdedaa
set_option linter.unusedVariables false
set_option linter.unusedSimpArgs false
open Go.RowKit Go.Sort

def dead5 : Raw5 := (0, 0, 0, 0, 0)
/-- five numbers lie here -/
def R5At (w : World) (b o : Nat) (r : Raw5) : Prop := w.cell? ⟨b, o, none⟩ = some (.int .i64 r.1) ∧ w.cell? ⟨b, o + 1, none⟩ = some (.int .i64 r.2.1) ∧ w.cell? ⟨b, o + 2, none⟩ = some (.int .i64 r.2.2.1) ∧ w.cell? ⟨b, o + 3, none⟩ = some (.int .i64 r.2.2.2.1) ∧ w.cell? ⟨b, o + 4, none⟩ = some (.int .i64 r.2.2.2.2)
theorem R5At.below {w w' : World} {b o B : Nat} {r : Raw5} (h : R5At w b o r) (hb : Below B w w') (hx : b < B) : R5At w' b o r := by
  obtain ⟨h0, h1, h2, h3, h4⟩ := h
  exact ⟨(hb.cell (p := ⟨b, o, none⟩) hx).trans h0, (hb.cell (p := ⟨b, o + 1, none⟩) hx).trans h1, (hb.cell (p := ⟨b, o + 2, none⟩) hx).trans h2, (hb.cell (p := ⟨b, o + 3, none⟩) hx).trans h3, (hb.cell (p := ⟨b, o + 4, none⟩) hx).trans h4⟩
/-- The slice at A reads as raw numbers, five by five. -/
def RdR (w : World) (B : Nat) (A : Option Addr) (l : List Raw5) : Prop :=
  ∀ j, j < l.length → ∃ b off, A = some ⟨b, off, none⟩ ∧ b < B ∧ R5At w b (off + j * 5) (l.getD j dead5)
theorem RdR.below {w w' : World} {B B' : Nat} {A : Option Addr} {l : List Raw5} (h : RdR w B A l) (hb : Below B' w w') (hB : B ≤ B') : RdR w' B A l := fun j hj => by
  obtain ⟨b, off, e, hlt, h0⟩ := h j hj
  exact ⟨b, off, e, hlt, h0.below hb (Nat.lt_of_lt_of_le hlt hB)⟩
end Go.Proofs.Ythfbcjbiemdedaa
namespace Go.Proofs.Ythfbcjbiemdedaa
set_option linter.unusedVariables false
open Go.ChangeShapes Go.WideShapes Go.ChangeAt Go.RowKit Go.Deep

theorem i64_wf6 {a : Int} (h : (Lit.int .i64 a).wf = true) : I64 a := by
  have : IntKind.i64.min ≤ a ∧ a ≤ IntKind.i64.max := by simpa [Lit.wf] using h
  simpa [I64, IntKind.min, IntKind.max, IntKind.signed, IntKind.bits] using this

section
variable {H : Type} {enc : TypeId × Value → H} {w : World} {base : Nat} {spare : Nat → Bool} {held : Bool} {P : Program}
theorem exists_list6 {α : Type} (d : α) {n : Nat} {Q : Nat → α → Prop} (h : ∀ i, i < n → ∃ p, Q i p) : ∃ l : List α, l.length = n ∧ ∀ i, i < n → Q i (l.getD i d) := by
  induction n with
  | zero => exact ⟨[], rfl, fun i hi => absurd hi (Nat.not_lt_zero i)⟩
  | succ n ih =>
    obtain ⟨l, hl, hq⟩ := ih fun i hi => h i (by omega)
    obtain ⟨p, hp⟩ := h n (by omega)
    refine ⟨l ++ [p], by simp [hl], fun i hi => ?_⟩
    by_cases hin : i < n
    · rw [List.getD_eq_getElem?_getD, List.getElem?_append_left (by omega), ← List.getD_eq_getElem?_getD]
      exact hq i hin
    · have : i = n := by omega
      subst this
      rw [List.getD_eq_getElem?_getD, List.getElem?_append_right (by omega), hl]
      simpa using hp
/-- an array of numbers -/
theorem ints_in {t e : TypeId} {n fuel : Nat} {cs : List Value} {x : DataW H × List MemPlace} (ht : P.underlying t = some (.array n e)) (he : P.underlying e = some (.int .i64)) (h1 : P.cellsOf e = 1) (hn : P.cellsOf t = n)
    (h : DataW.trod enc P w base spare held fuel t cs = some x) : ∃ l : List Int, l.length = n ∧ cs = l.map (Value.int .i64) ∧ ∀ i, i < n → I64 (l.getD i 0) := by
  obtain ⟨xs, m, _, _, hlen, hxl, hx⟩ := DataW.trod_array ht h
  rw [hn] at hlen
  have hq : ∀ i, i < n → ∃ u : Int, cs[i]? = some (.int .i64 u) ∧ I64 u := by
    intro i hi
    have h2 := hx i hi
    rw [h1, List.getElem?_eq_getElem (by omega)] at h2
    obtain ⟨u, hu, _, wu⟩ := DataW.trod_int he h2
    refine ⟨u, ?_, i64_wf6 wu⟩
    have h3 : ((cs.drop (i * 1)).take 1)[0]? = some (.int .i64 u) := by rw [hu]; rfl
    simpa using h3
  obtain ⟨l, hl, hlq⟩ := exists_list6 0 hq
  refine ⟨l, hl, ?_, fun i hi => (hlq i hi).2⟩
  refine List.ext_getElem? fun i => ?_
  by_cases hi : i < n
  · rw [(hlq i hi).1, List.getElem?_map, List.getElem?_eq_getElem (by omega), List.getD_eq_getElem?_getD, List.getElem?_eq_getElem (by omega)]
    rfl
  · rw [List.getElem?_eq_none (by omega), List.getElem?_eq_none (by rw [List.length_map]; omega)]
/-- a slice whose elements take some cells each -/
theorem els_in {α : Type} (dec : α → List Value) (d : α) (Q : α → Prop) (n : Nat) (hn0 : 0 < n) {t e : TypeId} {fuel : Nat} {a0 : Option Addr} {len0 cap0 : Nat} {x : DataW H × List MemPlace} (hdec : ∀ a, (dec a).length = n) (ht : P.underlying t = some (.slice e)) (hn : P.cellsOf e = n)
    (he : ∀ fuel cs (y : DataW H × List MemPlace), DataW.trod enc P w base spare held fuel e cs = some y → ∃ a, cs = dec a ∧ Q a)
    (h : DataW.trod enc P w base spare held fuel t [.slice a0 len0 cap0] = some x) :
    ∃ l : List α, l.length = len0 ∧ len0 ≤ cap0 ∧ cap0 ≤ maxLen ∧ (∀ j, j < l.length → ∃ b off, a0 = some ⟨b, off, none⟩ ∧ b < w.heap.size ∧ ∀ i, i < n → w.cell? ⟨b, off + j * n + i, none⟩ = (dec (l.getD j d))[i]?) ∧ ∀ j, j < l.length → Q (l.getD j d) := by
  rcases open_slice ht h with ⟨hcs, _⟩ | ⟨a, len, cap, m, k, D, Pl, hcs, hb, hl, hm, hmm, _, hi⟩
  · simp at hcs
    obtain ⟨rfl, rfl, rfl⟩ := hcs
    exact ⟨[], rfl, Nat.le_refl _, by simp [maxLen], fun j hj => absurd hj (Nat.not_lt_zero j), fun j hj => absurd hj (Nat.not_lt_zero j)⟩
  · simp at hcs
    obtain ⟨rfl, rfl, rfl⟩ := hcs
    have hlm : len0 ≤ m := by rw [hmm]; split <;> omega
    have hq : ∀ i, i < len0 → ∃ p : α, (∀ q, q < n → w.cell? ((a.add (i * n)).add q) = (dec p)[q]?) ∧ Q p := by
      intro i hi'
      obtain ⟨cs', hc, ht'⟩ := hi i (by omega)
      rw [hn] at hc
      obtain ⟨p, rfl, hp⟩ := he _ _ _ ht'
      obtain ⟨_, _, hat⟩ := World.cells?_some hc
      exact ⟨p, fun q hq => hat q (by omega), hp⟩
    obtain ⟨l, hll, hlq⟩ := exists_list6 d hq
    refine ⟨l, hll, hl, hm, fun j hj => ?_, fun j hj => (hlq j (by omega)).2⟩
    obtain ⟨b, off, spot⟩ := a
    have hc := (hlq j (by omega)).1
    have h0 := hc 0 hn0
    rw [List.getElem?_eq_getElem (by rw [hdec]; exact hn0)] at h0
    have h00 := (hlq 0 (by omega)).1 0 hn0
    rw [List.getElem?_eq_getElem (by rw [hdec]; exact hn0)] at h00
    have hspot : spot = none := by simpa [Addr.add] using World.cell?_spot h00
    subst hspot
    refine ⟨b, off, rfl, ?_, fun i hi => ?_⟩
    · rw [Addr.add_lit] at h0
      exact block_lt_of_cell h0
    · have := hc i hi
      rw [Addr.add_lit, Addr.add_lit] at this
      exact this
def dec4 (k : Kd) : List Value := [.int .i64 k.1, .int .i64 k.2.1, .int .i64 k.2.2.1, .int .i64 k.2.2.2]
def Fine4 (k : Kd) : Prop := I64 k.1 ∧ I64 k.2.1 ∧ I64 k.2.2.1 ∧ I64 k.2.2.2
theorem four_in {t e : TypeId} {fuel : Nat} {cs : List Value} {x : DataW H × List MemPlace} (ht : P.underlying t = some (.array 4 e)) (he : P.underlying e = some (.int .i64)) (h1 : P.cellsOf e = 1) (hn : P.cellsOf t = 4)
    (h : DataW.trod enc P w base spare held fuel t cs = some x) : ∃ k : Kd, cs = dec4 k ∧ Fine4 k := by
  obtain ⟨l, hl, rfl, hI⟩ := ints_in ht he h1 hn h
  match l, hl with
  | [a, b, c, d], _ => exact ⟨(a, b, c, d), rfl, hI 0 (by decide), hI 1 (by decide), hI 2 (by decide), hI 3 (by decide)⟩
end
end Go.Proofs.Ythfbcjbiemdedaa
namespace Go.Proofs.Ythfbcjbiemdedaa
set_option maxRecDepth 100000
set_option linter.unusedVariables false
open Go.ChangeShapes Go.WideShapes Go.ChangeAt Go.RowKit Go.Deep
theorem own : ownKnob Try.prog.godebug = none := by kernel_rfl
theorem laidOut : laidOutB Try.prog = true := by kernel_rfl
section
variable {H : Type} {enc : TypeId × Value → H} {W : World} {base : Nat} {spare : Nat → Bool} {held : Bool} {P : Program}
theorem okWide_arr6 {t e : TypeId} {n b0 : Nat} {r : Reach} {v : Value} (ht : P.underlying t = some (.array n e)) (h : Value.okWide P W r b0 t v) : ∃ xs : Array Value, v = .agg xs := by
  simp only [Value.okWide, ht] at h
  obtain ⟨cs, h1, h2, _⟩ := h
  exact ⟨cs, h1⟩
theorem four_val {t e : TypeId} {b0 : Nat} {r : Reach} {v : Value} {d : DataW H} {ps : List MemPlace} (ht : P.underlying t = some (.array 4 e)) (he : P.underlying e = some (.int .i64)) (h1 : P.cellsOf e = 1) (hn : P.cellsOf t = 4)
    (hv : Value.okWide P W r b0 t v) (h : DataW.Trod enc P W base spare held t v d ps) : ∃ k : Kd, v = kidsV k ∧ Fine4 k := by
  obtain ⟨xs, rfl⟩ := okWide_arr6 ht hv
  obtain ⟨fuel, hf⟩ := h
  obtain ⟨r, hr, fr⟩ := four_in ht he h1 hn hf
  refine ⟨r, ?_, fr⟩
  have hx : xs = (dec4 r).toArray := by
    have hr' : xs.toList = dec4 r := hr
    rw [← hr']
  rw [hx]
  rfl
end
end Go.Proofs.Ythfbcjbiemdedaa
namespace Go.Proofs.Ythfbcjbiemdedaa
set_option maxRecDepth 100000
set_option linter.unusedVariables false
open Go.ChangeShapes Go.WideShapes Go.ChangeAt Go.RowKit Go.Deep
theorem num_in {H : Type} {enc : TypeId × Value → H} {w : World} {base : Nat} {spare : Nat → Bool} {held : Bool} {P : Program} {t : TypeId} {fuel : Nat} {cs : List Value} {x : DataW H × List MemPlace} (he : P.underlying t = some (.int .i64))
    (h : DataW.trod enc P w base spare held fuel t cs = some x) : ∃ a : Int, cs = [.int .i64 a] ∧ I64 a := by
  obtain ⟨a, hu, _, wu⟩ := DataW.trod_int he h
  exact ⟨a, hu, i64_wf6 wu⟩
theorem nums6_in {H : Type} {enc : TypeId × Value → H} {w : World} {base : Nat} {spare : Nat → Bool} {held : Bool} {fuel : Nat} {a0 : Option Addr} {len0 cap0 : Nat} {x : DataW H × List MemPlace}
    (h : DataW.trod enc Try.prog w base spare held fuel 22 [.slice a0 len0 cap0] = some x) : ∃ l : List Int, l.length = len0 ∧ len0 ≤ cap0 ∧ cap0 ≤ maxLen ∧ Now w a0 l ∧ ∀ j, j < l.length → I64 (l.getD j 0) := by
  obtain ⟨l, h1, h2, h3, h4, h5⟩ := els_in (fun a : Int => [.int .i64 a]) 0 I64 1 (by decide) (fun _ => rfl) Try.underlying22 (by kernel_rfl) (fun _ _ _ hy => num_in Try.underlying3 hy) h
  refine ⟨l, h1, h2, h3, fun j hj => ?_, h5⟩
  obtain ⟨b, off, e, hb, hc⟩ := h4 j hj
  have h0 := hc 0 (by decide)
  rw [Nat.mul_one, Nat.add_zero] at h0
  exact ⟨b, off, e, hb, h0⟩
end Go.Proofs.Ythfbcjbiemdedaa
namespace Go.Proofs.Ythfbcjbiemdedaa
set_option maxRecDepth 100000
set_option linter.unusedVariables false
open Go.ChangeShapes Go.WideShapes Go.ChangeAt Go.RowKit Go.Deep
section
variable {H : Type} {enc : TypeId × Value → H} {w : World} {base : Nat} {spare : Nat → Bool} {held : Bool} {P : Program}
theorem quads_in {fuel : Nat} {a0 : Option Addr} {len0 cap0 : Nat} {x : DataW H × List MemPlace}
    (h : DataW.trod enc Try.prog w base spare held fuel 23 [.slice a0 len0 cap0] = some x) : ∃ l : List Ac, l.length = len0 ∧ len0 ≤ cap0 ∧ cap0 ≤ maxLen ∧ NowA w a0 l ∧ ∀ j, j < l.length → Fine4A (l.getD j deadA) := by
  obtain ⟨l, h1, h2, h3, h4, h5⟩ := els_in dec4 deadA Fine4 4 (by decide) (fun _ => rfl) Try.underlying23 (by kernel_rfl) (fun _ _ _ hy => four_in Try.underlying42 Try.underlying3 (by kernel_rfl) (by kernel_rfl) hy) h
  refine ⟨l, h1, h2, h3, fun j hj => ?_, h5⟩
  obtain ⟨b, off, e, hb, hc⟩ := h4 j hj
  exact ⟨b, off, e, hb, hc 0 (by decide), hc 1 (by decide), hc 2 (by decide), hc 3 (by decide)⟩
theorem acc_in {t e : TypeId} {f0 f1 f2 f3 : Field} {fuel : Nat} {cs : List Value} {x : DataW H × List MemPlace} (ht : P.underlying t = some (.struct #[f0, f1, f2, f3])) (e0 : f0.type = e) (e1 : f1.type = e) (e2 : f2.type = e) (e3 : f3.type = e) (o0 : f0.offset = 0) (o1 : f1.offset = 1) (o2 : f2.offset = 2) (o3 : f3.offset = 3)
    (he : P.underlying e = some (.int .i64)) (h1 : P.cellsOf e = 1) (hn : P.cellsOf t = 4)
    (h : DataW.trod enc P w base spare held fuel t cs = some x) : ∃ a : Ac, cs = dec4 a ∧ Fine4 a := by
  obtain ⟨y0, y1, y2, y3, m, _, hlen, k0, k1, k2, k3⟩ := Go.Joins.trod_struct4 ht h
  rw [hn] at hlen
  rw [e0, o0, h1] at k0
  rw [e1, o1, h1] at k1
  rw [e2, o2, h1] at k2
  rw [e3, o3, h1] at k3
  obtain ⟨a, ha, _, wa⟩ := DataW.trod_int he k0
  obtain ⟨b, hb, _, wb⟩ := DataW.trod_int he k1
  obtain ⟨c, hc, _, wc⟩ := DataW.trod_int he k2
  obtain ⟨d, hd, _, wd⟩ := DataW.trod_int he k3
  match cs, hlen with
  | [x0, x1, x2, x3], _ =>
    refine ⟨(a, b, c, d), ?_, i64_wf6 wa, i64_wf6 wb, i64_wf6 wc, i64_wf6 wd⟩
    simp at ha hb hc hd
    simp [dec4, ha, hb, hc, hd]
end
theorem acc_val {H : Type} {enc : TypeId × Value → H} {W : World} {base b0 : Nat} {spare : Nat → Bool} {held : Bool} {r : Reach} {v : Value} {d : DataW H} {ps : List MemPlace}
    (hv : Value.okWide Try.prog W r b0 25 v) (h : DataW.Trod enc Try.prog W base spare held 25 v d ps) : ∃ y : Ac, v = .agg #[.int .i64 y.1, .int .i64 y.2.1, .int .i64 y.2.2.1, .int .i64 y.2.2.2] ∧ Fine4A y := by
  obtain ⟨xs, rfl, hsz⟩ := okWide_struct Try.underlying25 hv
  obtain ⟨fuel, hf⟩ := h
  obtain ⟨y, hy, fy⟩ := acc_in Try.underlying25 rfl rfl rfl rfl rfl rfl rfl rfl Try.underlying3 (by kernel_rfl) (by kernel_rfl) hf
  refine ⟨y, ?_, fy⟩
  have hx : xs = (dec4 y).toArray := by
    have hr' : xs.toList = dec4 y := hy
    rw [← hr']
  rw [hx]
  rfl
theorem accs_in {H : Type} {enc : TypeId × Value → H} {w : World} {base : Nat} {spare : Nat → Bool} {held : Bool} {fuel : Nat} {a0 : Option Addr} {len0 cap0 : Nat} {x : DataW H × List MemPlace}
    (h : DataW.trod enc Try.prog w base spare held fuel 26 [.slice a0 len0 cap0] = some x) : ∃ l : List Ac, l.length = len0 ∧ len0 ≤ cap0 ∧ cap0 ≤ maxLen ∧ NowA w a0 l ∧ (∀ j, j < l.length → Fine4A (l.getD j deadA)) ∧ (x.1 = .nil ∧ len0 = 0 ∨ ∃ es sp, x.1 = .slice es sp ∧ es.length = len0) := by
  have hx : (x.1 = .nil ∧ len0 = 0 ∨ ∃ es sp, x.1 = .slice es sp ∧ es.length = len0) := by
    rcases open_slice Try.underlying26 h with ⟨hcs, hx⟩ | ⟨a, len, cap, m, n, D, Pl, hcs, hb, hl, hm, hmm, hx, hi⟩
    · simp at hcs
      obtain ⟨rfl, rfl, rfl⟩ := hcs
      exact .inl ⟨by rw [hx], rfl⟩
    · simp at hcs
      obtain ⟨rfl, rfl, rfl⟩ := hcs
      exact .inr ⟨_, _, by rw [hx], by simp⟩
  obtain ⟨l, h1, h2, h3, h4, h5⟩ := els_in dec4 deadA Fine4 4 (by decide) (fun _ => rfl) Try.underlying26 (by kernel_rfl) (fun _ _ _ hy => acc_in Try.underlying25 rfl rfl rfl rfl rfl rfl rfl rfl Try.underlying3 (by kernel_rfl) (by kernel_rfl) hy) h
  refine ⟨l, h1, h2, h3, fun j hj => ?_, h5, hx⟩
  obtain ⟨b, off, e, hb, hc⟩ := h4 j hj
  exact ⟨b, off, e, hb, hc 0 (by decide), hc 1 (by decide), hc 2 (by decide), hc 3 (by decide)⟩
end Go.Proofs.Ythfbcjbiemdedaa
