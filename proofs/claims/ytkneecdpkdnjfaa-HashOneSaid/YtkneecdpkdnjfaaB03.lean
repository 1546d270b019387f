/-
  Texts that the claims of this seat share, part 3.
-/
import Derived.Test.YtkneecdpkdnjfaaB02
import Derived.ProofKit
import Derived.OpenShut
import Derived.ChangeOld
import Derived.Deep.Slices
import Derived.Deep.Fields
import Derived.Deep.Strs
import Derived.Test.YtkneecdpkdnjfaaB00
import Derived.Test.YtkneecdpkdnjfaaB01
set_option linter.unusedVariables false
set_option linter.unusedSimpArgs false
namespace Go.Proofs.Ytkneecdpkdnjfaa
set_option linter.unusedVariables false
set_option linter.unusedSimpArgs false
open Go.RowKit Go.Sort

def dead5 : Raw5 := (0, 0, 0, 0, 0)
/-- five numbers lie here -/
def R5At (w : World) (b o : Nat) (r : Raw5) : Prop := w.cell? ⟨b, o, none⟩ = some (.int .i64 r.1) ∧ w.cell? ⟨b, o + 1, none⟩ = some (.int .i64 r.2.1) ∧ w.cell? ⟨b, o + 2, none⟩ = some (.int .i64 r.2.2.1) ∧ w.cell? ⟨b, o + 3, none⟩ = some (.int .i64 r.2.2.2.1) ∧ w.cell? ⟨b, o + 4, none⟩ = some (.int .i64 r.2.2.2.2)
theorem R5At.below {w w' : World} {b o B : Nat} {r : Raw5} (h : R5At w b o r) (hb : Below B w w') (hx : b < B) : R5At w' b o r := by
  obtain ⟨h0, h1, h2, h3, h4⟩ := h
  exact ⟨(hb.cell (p := ⟨b, o, none⟩) hx).trans h0, (hb.cell (p := ⟨b, o + 1, none⟩) hx).trans h1, (hb.cell (p := ⟨b, o + 2, none⟩) hx).trans h2, (hb.cell (p := ⟨b, o + 3, none⟩) hx).trans h3, (hb.cell (p := ⟨b, o + 4, none⟩) hx).trans h4⟩
/-- The slice at A reads as raw numbers, five by five. -/
def RdR (w : World) (B : Nat) (A : Option Addr) (l : List Raw5) : Prop :=
  ∀ j, j < l.length → ∃ b off, A = some ⟨b, off, none⟩ ∧ b < B ∧ R5At w b (off + j * 5) (l.getD j dead5)
theorem RdR.below {w w' : World} {B B' : Nat} {A : Option Addr} {l : List Raw5} (h : RdR w B A l) (hb : Below B' w w') (hB : B ≤ B') : RdR w' B A l := fun j hj => by
  obtain ⟨b, off, e, hlt, h0⟩ := h j hj
  exact ⟨b, off, e, hlt, h0.below hb (Nat.lt_of_lt_of_le hlt hB)⟩
theorem storeTo_succ (room : Int) (raw : List Raw5) (n : Nat) : storeTo room raw (n + 1) = (intern6 (storeTo room raw n) room (kids6 (storeTo room raw n) (raw.getD n dead5))).1 := rfl
end Go.Proofs.Ytkneecdpkdnjfaa
namespace Go.Proofs.Ytkneecdpkdnjfaa
set_option linter.unusedVariables false
open Go.ChangeShapes Go.WideShapes Go.ChangeAt Go.RowKit Go.Deep

theorem i64_wf6 {a : Int} (h : (Lit.int .i64 a).wf = true) : I64 a := by
  have : IntKind.i64.min ≤ a ∧ a ≤ IntKind.i64.max := by simpa [Lit.wf] using h
  simpa [I64, IntKind.min, IntKind.max, IntKind.signed, IntKind.bits] using this

section
variable {H : Type} {enc : TypeId × Value → H} {w : World} {base : Nat} {spare : Nat → Bool} {held : Bool} {P : Program}
theorem exists_list6 {α : Type} (d : α) {n : Nat} {Q : Nat → α → Prop} (h : ∀ i, i < n → ∃ p, Q i p) : ∃ l : List α, l.length = n ∧ ∀ i, i < n → Q i (l.getD i d) := by
  induction n with
  | zero => exact ⟨[], rfl, fun i hi => absurd hi (Nat.not_lt_zero i)⟩
  | succ n ih =>
    obtain ⟨l, hl, hq⟩ := ih fun i hi => h i (by omega)
    obtain ⟨p, hp⟩ := h n (by omega)
    refine ⟨l ++ [p], by simp [hl], fun i hi => ?_⟩
    by_cases hin : i < n
    · rw [List.getD_eq_getElem?_getD, List.getElem?_append_left (by omega), ← List.getD_eq_getElem?_getD]
      exact hq i hin
    · have : i = n := by omega
      subst this
      rw [List.getD_eq_getElem?_getD, List.getElem?_append_right (by omega), hl]
      simpa using hp
/-- an array of numbers -/
theorem ints_in {t e : TypeId} {n fuel : Nat} {cs : List Value} {x : DataW H × List MemPlace} (ht : P.underlying t = some (.array n e)) (he : P.underlying e = some (.int .i64)) (h1 : P.cellsOf e = 1) (hn : P.cellsOf t = n)
    (h : DataW.trod enc P w base spare held fuel t cs = some x) : ∃ l : List Int, l.length = n ∧ cs = l.map (Value.int .i64) ∧ ∀ i, i < n → I64 (l.getD i 0) := by
  obtain ⟨xs, m, _, _, hlen, hxl, hx⟩ := DataW.trod_array ht h
  rw [hn] at hlen
  have hq : ∀ i, i < n → ∃ u : Int, cs[i]? = some (.int .i64 u) ∧ I64 u := by
    intro i hi
    have h2 := hx i hi
    rw [h1, List.getElem?_eq_getElem (by omega)] at h2
    obtain ⟨u, hu, _, wu⟩ := DataW.trod_int he h2
    refine ⟨u, ?_, i64_wf6 wu⟩
    have h3 : ((cs.drop (i * 1)).take 1)[0]? = some (.int .i64 u) := by rw [hu]; rfl
    simpa using h3
  obtain ⟨l, hl, hlq⟩ := exists_list6 0 hq
  refine ⟨l, hl, ?_, fun i hi => (hlq i hi).2⟩
  refine List.ext_getElem? fun i => ?_
  by_cases hi : i < n
  · rw [(hlq i hi).1, List.getElem?_map, List.getElem?_eq_getElem (by omega), List.getD_eq_getElem?_getD, List.getElem?_eq_getElem (by omega)]
    rfl
  · rw [List.getElem?_eq_none (by omega), List.getElem?_eq_none (by rw [List.length_map]; omega)]
/-- a slice whose elements take some cells each -/
theorem els_in {α : Type} (dec : α → List Value) (d : α) (Q : α → Prop) (n : Nat) (hn0 : 0 < n) {t e : TypeId} {fuel : Nat} {a0 : Option Addr} {len0 cap0 : Nat} {x : DataW H × List MemPlace} (hdec : ∀ a, (dec a).length = n) (ht : P.underlying t = some (.slice e)) (hn : P.cellsOf e = n)
    (he : ∀ fuel cs (y : DataW H × List MemPlace), DataW.trod enc P w base spare held fuel e cs = some y → ∃ a, cs = dec a ∧ Q a)
    (h : DataW.trod enc P w base spare held fuel t [.slice a0 len0 cap0] = some x) :
    ∃ l : List α, l.length = len0 ∧ len0 ≤ cap0 ∧ cap0 ≤ maxLen ∧ (∀ j, j < l.length → ∃ b off, a0 = some ⟨b, off, none⟩ ∧ b < w.heap.size ∧ ∀ i, i < n → w.cell? ⟨b, off + j * n + i, none⟩ = (dec (l.getD j d))[i]?) ∧ ∀ j, j < l.length → Q (l.getD j d) := by
  rcases open_slice ht h with ⟨hcs, _⟩ | ⟨a, len, cap, m, k, D, Pl, hcs, hb, hl, hm, hmm, _, hi⟩
  · simp at hcs
    obtain ⟨rfl, rfl, rfl⟩ := hcs
    exact ⟨[], rfl, Nat.le_refl _, by simp [maxLen], fun j hj => absurd hj (Nat.not_lt_zero j), fun j hj => absurd hj (Nat.not_lt_zero j)⟩
  · simp at hcs
    obtain ⟨rfl, rfl, rfl⟩ := hcs
    have hlm : len0 ≤ m := by rw [hmm]; split <;> omega
    have hq : ∀ i, i < len0 → ∃ p : α, (∀ q, q < n → w.cell? ((a.add (i * n)).add q) = (dec p)[q]?) ∧ Q p := by
      intro i hi'
      obtain ⟨cs', hc, ht'⟩ := hi i (by omega)
      rw [hn] at hc
      obtain ⟨p, rfl, hp⟩ := he _ _ _ ht'
      obtain ⟨_, _, hat⟩ := World.cells?_some hc
      exact ⟨p, fun q hq => hat q (by omega), hp⟩
    obtain ⟨l, hll, hlq⟩ := exists_list6 d hq
    refine ⟨l, hll, hl, hm, fun j hj => ?_, fun j hj => (hlq j (by omega)).2⟩
    obtain ⟨b, off, spot⟩ := a
    have hc := (hlq j (by omega)).1
    have h0 := hc 0 hn0
    rw [List.getElem?_eq_getElem (by rw [hdec]; exact hn0)] at h0
    have h00 := (hlq 0 (by omega)).1 0 hn0
    rw [List.getElem?_eq_getElem (by rw [hdec]; exact hn0)] at h00
    have hspot : spot = none := by simpa [Addr.add] using World.cell?_spot h00
    subst hspot
    refine ⟨b, off, rfl, ?_, fun i hi => ?_⟩
    · rw [Addr.add_lit] at h0
      exact block_lt_of_cell h0
    · have := hc i hi
      rw [Addr.add_lit, Addr.add_lit] at this
      exact this
/-- five numbers -/
def dec5 (r : Raw5) : List Value := [.int .i64 r.1, .int .i64 r.2.1, .int .i64 r.2.2.1, .int .i64 r.2.2.2.1, .int .i64 r.2.2.2.2]
def dec4 (k : Kd) : List Value := [.int .i64 k.1, .int .i64 k.2.1, .int .i64 k.2.2.1, .int .i64 k.2.2.2]
def Fine4 (k : Kd) : Prop := I64 k.1 ∧ I64 k.2.1 ∧ I64 k.2.2.1 ∧ I64 k.2.2.2
def FineN (x : Nd) : Prop := I64 x.1 ∧ Fine4 x.2.1 ∧ I64 x.2.2
theorem five_in {t e : TypeId} {fuel : Nat} {cs : List Value} {x : DataW H × List MemPlace} (ht : P.underlying t = some (.array 5 e)) (he : P.underlying e = some (.int .i64)) (h1 : P.cellsOf e = 1) (hn : P.cellsOf t = 5)
    (h : DataW.trod enc P w base spare held fuel t cs = some x) : ∃ r : Raw5, cs = dec5 r ∧ Fine5 r := by
  obtain ⟨l, hl, rfl, hI⟩ := ints_in ht he h1 hn h
  match l, hl with
  | [a, b, c, d, e], _ => exact ⟨(a, b, c, d, e), rfl, hI 0 (by decide), hI 1 (by decide), hI 2 (by decide), hI 3 (by decide), hI 4 (by decide)⟩
theorem four_in {t e : TypeId} {fuel : Nat} {cs : List Value} {x : DataW H × List MemPlace} (ht : P.underlying t = some (.array 4 e)) (he : P.underlying e = some (.int .i64)) (h1 : P.cellsOf e = 1) (hn : P.cellsOf t = 4)
    (h : DataW.trod enc P w base spare held fuel t cs = some x) : ∃ k : Kd, cs = dec4 k ∧ Fine4 k := by
  obtain ⟨l, hl, rfl, hI⟩ := ints_in ht he h1 hn h
  match l, hl with
  | [a, b, c, d], _ => exact ⟨(a, b, c, d), rfl, hI 0 (by decide), hI 1 (by decide), hI 2 (by decide), hI 3 (by decide)⟩
/-- a node: a number, four, a number -/
theorem node_in {t e t4 : TypeId} {f0 f1 f2 : Field} {fuel : Nat} {cs : List Value} {x : DataW H × List MemPlace} (ht : P.underlying t = some (.struct #[f0, f1, f2])) (e0 : f0.type = e) (e1 : f1.type = t4) (e2 : f2.type = e) (o0 : f0.offset = 0) (o1 : f1.offset = 1) (o2 : f2.offset = 5)
    (h4 : P.underlying t4 = some (.array 4 e)) (he : P.underlying e = some (.int .i64)) (h1 : P.cellsOf e = 1) (hn4 : P.cellsOf t4 = 4) (hn : P.cellsOf t = 6)
    (h : DataW.trod enc P w base spare held fuel t cs = some x) : ∃ a : Nd, cs = cellsN a ∧ FineN a := by
  obtain ⟨y0, y1, y2, m, _, hlen, k0, k1, k2⟩ := trod_struct3 ht h
  rw [hn] at hlen
  rw [e0, o0, h1] at k0
  rw [e1, o1, hn4] at k1
  rw [e2, o2, h1] at k2
  obtain ⟨a, hu, _, wu⟩ := DataW.trod_int he k0
  obtain ⟨k, hk, fk⟩ := four_in h4 he h1 hn4 k1
  obtain ⟨c, hv, _, wv⟩ := DataW.trod_int he k2
  match cs, hlen with
  | [x0, x1, x2, x3, x4, x5], _ =>
    refine ⟨(a, k, c), ?_, i64_wf6 wu, fk, i64_wf6 wv⟩
    simp [dec4] at hu hk hv
    simp [cellsN, hu, hk, hv]
end
end Go.Proofs.Ytkneecdpkdnjfaa
namespace Go.Proofs.Ytkneecdpkdnjfaa
set_option maxRecDepth 100000
set_option linter.unusedVariables false
set_option linter.unusedSimpArgs false
open Go.RowKit Go.Sort

/-- the last 31 bits -/
def lowH (k : Int) : Nat := (k % 2147483648).toNat
theorem lowH_lt (k : Int) : lowH k < 2147483648 := by unfold lowH; omega
theorem lowH_int (k : Int) : (lowH k : Int) = k % 2147483648 := by unfold lowH; omega
def rndH (h : Nat) (k : Int) : Nat := (h ^^^ lowH k) * 16777619 % 2147483648
theorem rndH_lt (h : Nat) (k : Int) : rndH h k < 2147483648 := Nat.mod_lt _ (by decide)
def kdH (k : Kd) : Nat → Int | 0 => k.1 | 1 => k.2.1 | 2 => k.2.2.1 | _ => k.2.2.2
def ofTo (k : Kd) : Nat → Nat | 0 => 17 | i + 1 => rndH (ofTo k i) (kdH k i)
theorem ofTo_lt (k : Kd) (i : Nat) : ofTo k i < 2147483648 := by cases i with | zero => (show (17 : Nat) < 2147483648; decide) | succ i => exact rndH_lt _ _
def mixH (h : Nat) : Nat := h ^^^ h / 32768
def ofH (k : Kd) : Nat := mixH (ofTo k 4)
theorem xor_lt31 {a b : Nat} (ha : a < 2147483648) (hb : b < 2147483648) : a ^^^ b < 2147483648 := Nat.xor_lt_two_pow (n := 31) ha hb
theorem mixH_lt {h : Nat} (hh : h < 2147483648) : mixH h < 2147483648 := xor_lt31 hh (by omega)
theorem ofH_lt (k : Kd) : ofH k < 2147483648 := mixH_lt (ofTo_lt k 4)

/-! ### bits as the text asks for them -/
theorem and31 {k : Int} (h : I64 k) : bits .and .i64 k 2147483647 = (lowH k : Int) := by
  obtain ⟨h1, h2⟩ := h
  have e : (BitVec.ofInt IntKind.i64.bits k &&& BitVec.ofInt IntKind.i64.bits 2147483647).toNat = lowH k := by
    rw [BitVec.toNat_and]
    have e1 : (BitVec.ofInt IntKind.i64.bits k).toNat = (k % 18446744073709551616).toNat := by
      rw [BitVec.toNat_ofInt]
      rfl
    have e2 : (BitVec.ofInt IntKind.i64.bits 2147483647).toNat = 2 ^ 31 - 1 := by decide
    rw [e1, e2, Nat.and_two_pow_sub_one_eq_mod]
    unfold lowH
    omega
  show IntKind.i64.wrap _ = _
  rw [e, IntKind.wrap_i64]
  have := lowH_lt k
  omega
theorem xor31 {a b : Nat} (ha : a < 2147483648) (hb : b < 2147483648) : bits .xor .i64 (a : Int) (b : Int) = ((a ^^^ b : Nat) : Int) := by
  have e : (BitVec.ofInt IntKind.i64.bits (a : Int) ^^^ BitVec.ofInt IntKind.i64.bits (b : Int)).toNat = a ^^^ b := by
    rw [BitVec.toNat_xor]
    have e1 : ∀ c : Nat, c < 2147483648 → (BitVec.ofInt IntKind.i64.bits (c : Int)).toNat = c := by
      intro c hc
      rw [BitVec.toNat_ofInt]
      show ((c : Int) % ((2 ^ 64 : Nat) : Int)).toNat = c
      omega
    rw [e1 a ha, e1 b hb]
  show IntKind.i64.wrap _ = _
  rw [e, IntKind.wrap_i64]
  have := xor_lt31 ha hb
  omega

/-! ### one and the same number: one and the same kid -/
theorem xor_back (a b : Nat) : a ^^^ b ^^^ b = a := by rw [Nat.xor_assoc, Nat.xor_self, Nat.xor_zero]
theorem mul_back {a : Nat} (h : a < 2147483648) : a * 16777619 % 2147483648 * 899433627 % 2147483648 = a := by omega
theorem mix_back {h : Nat} (hh : h < 2147483648) : mixH h ^^^ mixH h / 32768 ^^^ mixH h / 1073741824 = h := by
  have e1 : ∀ n : Nat, n / 32768 = n >>> 15 := fun n => (Nat.shiftRight_eq_div_pow n 15).symm
  have e2 : ∀ n : Nat, n / 1073741824 = n >>> 15 >>> 15 := fun n => by rw [← Nat.shiftRight_add]; exact (Nat.shiftRight_eq_div_pow n 30).symm
  have e3 : h >>> 15 >>> 15 >>> 15 = 0 := by
    rw [← Nat.shiftRight_add, ← Nat.shiftRight_add, Nat.shiftRight_eq_div_pow]
    exact Nat.div_eq_of_lt (Nat.lt_of_lt_of_le hh (by decide))
  rw [e1, e2]
  unfold mixH
  rw [e1, Nat.shiftRight_xor_distrib, Nat.shiftRight_xor_distrib, e3, Nat.xor_zero]
  rw [show h ^^^ h >>> 15 ^^^ (h >>> 15 ^^^ h >>> 15 >>> 15) = h ^^^ h >>> 15 ^^^ h >>> 15 ^^^ h >>> 15 >>> 15 from (Nat.xor_assoc _ _ _).symm, xor_back, xor_back]
theorem mixH_inj {a b : Nat} (ha : a < 2147483648) (hb : b < 2147483648) (h : mixH a = mixH b) : a = b := by rw [← mix_back ha, ← mix_back hb, h]
theorem rnd_inj1 {a b : Nat} {k : Int} (ha : a < 2147483648) (hb : b < 2147483648) (h : rndH a k = rndH b k) : a = b := by
  have h1 := mul_back (xor_lt31 ha (lowH_lt k))
  have h2 := mul_back (xor_lt31 hb (lowH_lt k))
  unfold rndH at h
  rw [h, h2] at h1
  rw [← xor_back a (lowH k), ← xor_back b (lowH k), h1]
theorem rnd_inj2 {a : Nat} {k l : Int} (ha : a < 2147483648) (h : rndH a k = rndH a l) : lowH k = lowH l := by
  have h1 := mul_back (xor_lt31 ha (lowH_lt k))
  have h2 := mul_back (xor_lt31 ha (lowH_lt l))
  unfold rndH at h
  rw [h, h2] at h1
  rw [← xor_back (lowH k) a, ← xor_back (lowH l) a, Nat.xor_comm (lowH k), Nat.xor_comm (lowH l), h1]
/-- kids, one of which is another one -/
def putH (k : Kd) (p : Nat) (v : Int) : Kd := match p with | 0 => (v, k.2.1, k.2.2.1, k.2.2.2) | 1 => (k.1, v, k.2.2.1, k.2.2.2) | 2 => (k.1, k.2.1, v, k.2.2.2) | _ => (k.1, k.2.1, k.2.2.1, v)
theorem low_id {k : Int} (h : 0 ≤ k ∧ k < 2147483648) : (lowH k : Int) = k := by rw [lowH_int]; omega
theorem one_other (k : Kd) (p : Nat) (v : Int) (hk : ∀ i, 0 ≤ kdH k i ∧ kdH k i < 2147483648) (hv : 0 ≤ v ∧ v < 2147483648) : ofH k = ofH (putH k p v) ↔ k = putH k p v := by
  refine ⟨fun h => ?_, fun h => by rw [← h]⟩
  have h4 := mixH_inj (ofTo_lt _ _) (ofTo_lt _ _) h
  have key : ∀ (a : Nat) (x y : Int), a < 2147483648 → (0 ≤ x ∧ x < 2147483648) → (0 ≤ y ∧ y < 2147483648) → rndH a x = rndH a y → x = y := by
    intro a x y ha hx hy he
    have := rnd_inj2 ha he
    rw [← low_id hx, ← low_id hy, this]
  obtain ⟨k0, k1, k2, k3⟩ := k
  have b0 : 0 ≤ k0 ∧ k0 < 2147483648 := hk 0
  have b1 : 0 ≤ k1 ∧ k1 < 2147483648 := hk 1
  have b2 : 0 ≤ k2 ∧ k2 < 2147483648 := hk 2
  have b3 : 0 ≤ k3 ∧ k3 < 2147483648 := hk 3
  clear hk
  clear h
  have hp : p = 0 ∨ p = 1 ∨ p = 2 ∨ ∃ q, p = q + 3 := by
    by_cases h3 : 3 ≤ p
    · exact .inr (.inr (.inr ⟨p - 3, by omega⟩))
    · omega
  rcases hp with rfl | rfl | rfl | ⟨q, rfl⟩
  · have h3 := rnd_inj1 (rndH_lt _ _) (rndH_lt _ _) (show rndH (rndH (rndH (rndH 17 k0) k1) k2) k3 = rndH (rndH (rndH (rndH 17 v) k1) k2) k3 from h4)
    rw [key 17 k0 v (by decide) b0 hv (rnd_inj1 (rndH_lt _ _) (rndH_lt _ _) (rnd_inj1 (rndH_lt _ _) (rndH_lt _ _) h3))]
    rfl
  · have h3 := rnd_inj1 (rndH_lt _ _) (rndH_lt _ _) (show rndH (rndH (rndH (rndH 17 k0) k1) k2) k3 = rndH (rndH (rndH (rndH 17 k0) v) k2) k3 from h4)
    rw [key _ k1 v (rndH_lt _ _) b1 hv (rnd_inj1 (rndH_lt _ _) (rndH_lt _ _) h3)]
    rfl
  · have h3 := rnd_inj1 (rndH_lt _ _) (rndH_lt _ _) (show rndH (rndH (rndH (rndH 17 k0) k1) k2) k3 = rndH (rndH (rndH (rndH 17 k0) k1) v) k3 from h4)
    rw [key _ k2 v (rndH_lt _ _) b2 hv h3]
    rfl
  · rw [key _ k3 v (rndH_lt _ _) b3 hv (show rndH (rndH (rndH (rndH 17 k0) k1) k2) k3 = rndH (rndH (rndH (rndH 17 k0) k1) k2) v from h4)]
    rfl
/-- what stands ahead of the last 31 bits makes no difference -/
theorem ofH_low {a b : Kd} (h : ∀ i, lowH (kdH a i) = lowH (kdH b i)) : ofH a = ofH b := by
  have e : ∀ i, ofTo a i = ofTo b i := by
    intro i
    induction i with
    | zero => rfl
    | succ i ih => show rndH _ _ = rndH _ _; unfold rndH; rw [ih, h i]
  unfold ofH
  rw [e]

/-! ### slots, paths -/
def slotH (h i s : Int) : Int := if s < 1 ∨ h < 0 ∨ 2147483648 ≤ h ∨ i < 0 ∨ 2147483648 ≤ i then 0 else (h + i) % s
def pathH (h : Nat) (s : Int) (n : Nat) : List Int := (List.range n).map fun (i : Nat) => slotH h i s
theorem pathH_len (h : Nat) (s : Int) (n : Nat) : (pathH h s n).length = n := by unfold pathH; simp
theorem pathH_succ (h : Nat) (s : Int) (n : Nat) : pathH h s (n + 1) = pathH h s n ++ [slotH h n s] := by unfold pathH; rw [List.range_succ, List.map_append]; rfl
theorem pathH_get (h : Nat) (s : Int) {n i : Nat} (hi : i < n) : (pathH h s n).getD i 0 = slotH h i s := by
  unfold pathH
  rw [List.getD_eq_getElem?_getD, List.getElem?_map, List.getElem?_range hi]
  rfl
/-- a path's length: as many as there are slots, if there are from 1 to 4000 -/
def manyH (s : Int) : Nat := if 1 ≤ s ∧ s ≤ 4000 then s.toNat else 0
theorem manyH_le (s : Int) : manyH s ≤ 4000 := by unfold manyH; split <;> omega
theorem slot_bd (h : Nat) {n : Nat} (i : Int) (hn : 1 ≤ n) : 0 ≤ slotH h i n ∧ slotH h i n < n := by
  unfold slotH
  split
  · omega
  · exact ⟨Int.emod_nonneg _ (by omega), Int.emod_lt_of_pos _ (by omega)⟩
theorem slot_i64 (h i s : Int) : I64 (slotH h i s) := by
  unfold slotH I64
  split
  · omega
  · rename_i hc
    have h1 := Int.emod_nonneg (h + i) (show s ≠ 0 by omega)
    have h2 := Int.emod_lt_of_pos (h + i) (show (0 : Int) < s by omega)
    have h3 : (h + i) % s ≤ h + i := (by
      rw [Int.emod_def]
      have := Int.mul_nonneg (show (0 : Int) ≤ s by omega) (Int.ediv_nonneg (show 0 ≤ h + i by omega) (show (0 : Int) ≤ s by omega))
      omega)
    omega
end Go.Proofs.Ytkneecdpkdnjfaa
namespace Go.Proofs.Ytkneecdpkdnjfaa
set_option maxRecDepth 100000
set_option linter.unusedVariables false
set_option linter.unusedSimpArgs false
open Go.RowKit Go.Sort

theorem kdH_fine {k : Kd} (h : Fine4 k) (i : Nat) : I64 (kdH k i) := by
  obtain ⟨h0, h1, h2, h3⟩ := h
  match i with
  | 0 => exact h0
  | 1 => exact h1
  | 2 => exact h2
  | _ + 3 => exact h3
/-- one round's numbers, as the text reckons them -/
theorem round_num {h : Nat} {k : Int} (hh : h < 2147483648) (hk : I64 k) : ∃ u x : Nat, bits .and .i64 k 2147483647 = (u : Int) ∧ bits .xor .i64 (h : Int) (u : Int) = (x : Int) ∧ x < 2147483648 ∧ rndH h k = x * 16777619 % 2147483648 :=
  ⟨lowH k, h ^^^ lowH k, and31 hk, xor31 hh (lowH_lt k), xor_lt31 hh (lowH_lt k), rfl⟩
theorem mix_num {h : Nat} (hh : h < 2147483648) : bits .xor .i64 (h : Int) ((h / 32768 : Nat) : Int) = (mixH h : Int) := xor31 hh (by omega)
set_option maxHeartbeats 4000000 in
theorem of13_any (k : Kd) (w : World) (hk : Fine4 k) :
    Calls Try.prog 15 #[kidsV k] w fun e w' => e = .returned (.int .i64 (ofH k : Int)) ∧ Below w.heap.size w w' := by
  have HK := Lib.hid hk
  clear hk
  have HB : Hid (Below w.heap.size w (w.alloc (.cells #[.int .i64 k.1, .int .i64 k.2.1, .int .i64 k.2.2.1, .int .i64 k.2.2.2] 22))) := (Below.refl _ _).alloc (Nat.le_refl _) _
  have HR := Lib.hid (heap_alloc_new w (.cells #[.int .i64 k.1, .int .i64 k.2.1, .int .i64 k.2.2.1, .int .i64 k.2.2.2] 22))
  unfold kidsV
  have i0 : ∀ w : World, (Instr.index 22 (.agg #[.int .i64 k.1, .int .i64 k.2.1, .int .i64 k.2.2.1, .int .i64 k.2.2.2]) (.int .i64 0)).run Try.prog w = .ok (.int .i64 k.1) w := fun _ => by kernel_rfl
  have i1 : ∀ w : World, (Instr.index 22 (.agg #[.int .i64 k.1, .int .i64 k.2.1, .int .i64 k.2.2.1, .int .i64 k.2.2.2]) (.int .i64 1)).run Try.prog w = .ok (.int .i64 k.2.1) w := fun _ => by kernel_rfl
  have i2 : ∀ w : World, (Instr.index 22 (.agg #[.int .i64 k.1, .int .i64 k.2.1, .int .i64 k.2.2.1, .int .i64 k.2.2.2]) (.int .i64 2)).run Try.prog w = .ok (.int .i64 k.2.2.1) w := fun _ => by kernel_rfl
  have i3 : ∀ w : World, (Instr.index 22 (.agg #[.int .i64 k.1, .int .i64 k.2.1, .int .i64 k.2.2.1, .int .i64 k.2.2.2]) (.int .i64 3)).run Try.prog w = .ok (.int .i64 k.2.2.2) w := fun _ => by kernel_rfl
  go_enter Try.func15, Try.ntmps15
  go_wp2
  go_loopw [3, 5, 7] (fun h kid i wr => ∃ j : Nat, j ≤ 4 ∧ i = .int .i64 j ∧ h = .int .i64 (ofTo k j : Int) ∧ Hid (Below w.heap.size w wr)) (fun _ _ i _ => 4 - (intOf i).toNat)
  case atStart => exact ⟨0, by omega, rfl, rfl, HB.out⟩
  case round =>
    obtain ⟨j, hj, rfl, rfl, HH⟩ := hrel
    by_cases hlt : j < 4
    · obtain ⟨u, x, e1, e2, hx, hr⟩ := round_num (ofTo_lt k j) (kdH_fine HK.out j)
      have hs : ofTo k (j + 1) = x * 16777619 % 2147483648 := hr
      have HS := Lib.hid hs
      have hh := ofTo_lt k j
      generalize ofTo k j = h at *
      clear hr hs
      have hj4 : j = 0 ∨ j = 1 ∨ j = 2 ∨ j = 3 := by omega
      rcases hj4 with rfl | rfl | rfl | rfl
      all_goals simp only [kdH] at e1
      · go_wp2
        go_roundw
        case measure => simp [intOf]
        case rel => exact ⟨1, by omega, rfl, congrArg (Value.int .i64) (by rw [HS.out]; omega), HH.out⟩
      · go_wp2
        go_roundw
        case measure => simp [intOf]
        case rel => exact ⟨2, by omega, rfl, congrArg (Value.int .i64) (by rw [HS.out]; omega), HH.out⟩
      · go_wp2
        go_roundw
        case measure => simp [intOf]
        case rel => exact ⟨3, by omega, rfl, congrArg (Value.int .i64) (by rw [HS.out]; omega), HH.out⟩
      · go_wp2
        go_roundw
        case measure => simp [intOf]
        case rel => exact ⟨4, by omega, rfl, congrArg (Value.int .i64) (by rw [HS.out]; omega), HH.out⟩
    · obtain rfl : j = 4 := by omega
      have em : bits .xor .i64 (ofTo k 4 : Int) ((ofTo k 4 : Int) / 32768) = (mixH (ofTo k 4) : Int) := mix_num (ofTo_lt k 4)
      have hh := ofTo_lt k 4
      have hd : ((ofTo k 4 : Int) / 32768) < 65536 ∧ 0 ≤ ((ofTo k 4 : Int) / 32768) := by omega
      have HF : Hid (ofH k = mixH (ofTo k 4)) := rfl
      generalize ofTo k 4 = h at *
      go_wp2
      go_ret
      exact ⟨by rw [HF.out]; rfl, HH.out⟩
set_option maxHeartbeats 4000000 in
theorem ref13Of_any (k : Kd) (w : World) (hk : Fine4 k) :
    Calls Try.prog 16 #[kidsV k] w fun e w' => e = .returned (.int .i64 (ofH k : Int)) ∧ Below w.heap.size w w' := by
  have HK := Lib.hid hk
  clear hk
  have HB : Hid ((w.alloc (.cells #[.int .i64 k.1, .int .i64 k.2.1, .int .i64 k.2.2.1, .int .i64 k.2.2.2] 22)).heap[w.heap.size]? = some (.cells #[.int .i64 k.1, .int .i64 k.2.1, .int .i64 k.2.2.1, .int .i64 k.2.2.2] 22 (0, 0)) ∧ Below w.heap.size w (w.alloc (.cells #[.int .i64 k.1, .int .i64 k.2.1, .int .i64 k.2.2.1, .int .i64 k.2.2.2] 22))) := ⟨heap_alloc_new w _, (Below.refl _ _).alloc (Nat.le_refl _) _⟩
  unfold kidsV
  go_enter Try.func16, Try.ntmps16
  go_wp2
  go_loopw [3, 4] (fun h i wr => ∃ j : Nat, j ≤ 4 ∧ i = .int .i64 j ∧ h = .int .i64 (ofTo k j : Int) ∧ Hid (wr.heap[w.heap.size]? = some (.cells #[.int .i64 k.1, .int .i64 k.2.1, .int .i64 k.2.2.1, .int .i64 k.2.2.2] 22 (0, 0)) ∧ Below w.heap.size w wr)) (fun _ i _ => 4 - (intOf i).toNat)
  case atStart => exact ⟨0, by omega, rfl, rfl, HB.out⟩
  case round =>
    obtain ⟨j, hj, rfl, rfl, HH⟩ := hrel
    by_cases hlt : j < 4
    · obtain ⟨u, x, e1, e2, hx, hr⟩ := round_num (ofTo_lt k j) (kdH_fine HK.out j)
      have hs : ofTo k (j + 1) = x * 16777619 % 2147483648 := hr
      have HS := Lib.hid hs
      have hh := ofTo_lt k j
      generalize ofTo k j = h at *
      clear hr hs
      have c0 : wr.cell? ⟨w.heap.size, 0, none⟩ = some (.int .i64 k.1) := by rw [Lib.cell_of_heap HH.out.1]; rfl
      have c1 : wr.cell? ⟨w.heap.size, 1, none⟩ = some (.int .i64 k.2.1) := by rw [Lib.cell_of_heap HH.out.1]; rfl
      have c2 : wr.cell? ⟨w.heap.size, 2, none⟩ = some (.int .i64 k.2.2.1) := by rw [Lib.cell_of_heap HH.out.1]; rfl
      have c3 : wr.cell? ⟨w.heap.size, 3, none⟩ = some (.int .i64 k.2.2.2) := by rw [Lib.cell_of_heap HH.out.1]; rfl
      have hj4 : j = 0 ∨ j = 1 ∨ j = 2 ∨ j = 3 := by omega
      rcases hj4 with rfl | rfl | rfl | rfl
      all_goals simp only [kdH] at e1
      · go_wp2
        go_roundw
        case measure => simp [intOf]
        case rel => exact ⟨1, by omega, rfl, congrArg (Value.int .i64) (by rw [HS.out]; omega), HH.out⟩
      · go_wp2
        go_roundw
        case measure => simp [intOf]
        case rel => exact ⟨2, by omega, rfl, congrArg (Value.int .i64) (by rw [HS.out]; omega), HH.out⟩
      · go_wp2
        go_roundw
        case measure => simp [intOf]
        case rel => exact ⟨3, by omega, rfl, congrArg (Value.int .i64) (by rw [HS.out]; omega), HH.out⟩
      · go_wp2
        go_roundw
        case measure => simp [intOf]
        case rel => exact ⟨4, by omega, rfl, congrArg (Value.int .i64) (by rw [HS.out]; omega), HH.out⟩
    · obtain rfl : j = 4 := by omega
      have em : bits .xor .i64 (ofTo k 4 : Int) ((ofTo k 4 : Int) / 32768) = (mixH (ofTo k 4) : Int) := mix_num (ofTo_lt k 4)
      have hh := ofTo_lt k 4
      have hd : ((ofTo k 4 : Int) / 32768) < 65536 ∧ 0 ≤ ((ofTo k 4 : Int) / 32768) := by omega
      have HF : Hid (ofH k = mixH (ofTo k 4)) := rfl
      generalize ofTo k 4 = h at *
      go_wp2
      go_ret
      exact ⟨by rw [HF.out]; rfl, HH.out.2⟩
/-! ### slots -/
def smallH (n : Int) : Bool := decide (0 ≤ n ∧ n < 2147483648)
theorem small13_any (n : Int) (w : World) (hn : I64 n) :
    Calls Try.prog 17 #[.int .i64 n] w fun e w' => e = .returned (.bool (smallH n)) ∧ w = w' := by
  obtain ⟨h1, h2⟩ := hn
  go_enter Try.func17, Try.ntmps17
  by_cases c1 : 0 ≤ n <;> by_cases c2 : n < 2147483648
  all_goals go_wp2
  all_goals go_ret
  all_goals (refine ⟨?_, rfl⟩; unfold smallH; simp [c1, c2])
theorem ref13Slot_any (h i s : Int) (w : World) (hh : I64 h) (hi : I64 i) (hs : I64 s) :
    Calls Try.prog 11 #[.int .i64 h, .int .i64 i, .int .i64 s] w fun e w' => e = .returned (.int .i64 (slotH h i s)) ∧ w = w' := by
  obtain ⟨h1, h2⟩ := hh
  obtain ⟨h3, h4⟩ := hi
  obtain ⟨h5, h6⟩ := hs
  obtain ⟨r, hr⟩ : ∃ r, r = slotH h i s := ⟨_, rfl⟩
  rw [← hr]
  unfold slotH at hr
  by_cases c1 : s < 1
  · rw [if_pos (.inl c1)] at hr
    subst hr
    go_enter Try.func11, Try.ntmps11
    go_wp2
    all_goals go_ret
    all_goals exact ⟨rfl, rfl⟩
  by_cases c2 : h < 0
  · rw [if_pos (.inr (.inl c2))] at hr
    subst hr
    go_enter Try.func11, Try.ntmps11
    go_wp2
    all_goals go_ret
    all_goals exact ⟨rfl, rfl⟩
  by_cases c3 : 2147483648 ≤ h
  · rw [if_pos (.inr (.inr (.inl c3)))] at hr
    subst hr
    go_enter Try.func11, Try.ntmps11
    go_wp2
    all_goals go_ret
    all_goals exact ⟨rfl, rfl⟩
  by_cases c4 : i < 0
  · rw [if_pos (.inr (.inr (.inr (.inl c4))))] at hr
    subst hr
    go_enter Try.func11, Try.ntmps11
    go_wp2
    all_goals go_ret
    all_goals exact ⟨rfl, rfl⟩
  by_cases c5 : 2147483648 ≤ i
  · rw [if_pos (.inr (.inr (.inr (.inr c5))))] at hr
    subst hr
    go_enter Try.func11, Try.ntmps11
    go_wp2
    all_goals go_ret
    all_goals exact ⟨rfl, rfl⟩
  rw [if_neg (by omega)] at hr
  have HR := Lib.hid hr
  clear hr
  have hm : (h + i).tmod s = (h + i) % s := Int.tmod_eq_emod_of_nonneg (by omega)
  go_enter Try.func11, Try.ntmps11
  go_wp2
  all_goals go_ret
  all_goals (refine ⟨?_, rfl⟩; rw [HR.out, ← hm]; rfl)
theorem slot13_any (h i s : Int) (w : World) (hh : I64 h) (hi : I64 i) (hs : I64 s) :
    Calls Try.prog 10 #[.int .i64 h, .int .i64 i, .int .i64 s] w fun e w' => e = .returned (.int .i64 (slotH h i s)) ∧ w = w' := by
  obtain ⟨h1, h2⟩ := hh
  obtain ⟨h3, h4⟩ := hi
  obtain ⟨h5, h6⟩ := hs
  obtain ⟨r, hr⟩ : ∃ r, r = slotH h i s := ⟨_, rfl⟩
  rw [← hr]
  unfold slotH at hr
  by_cases c1 : s < 1
  · rw [if_pos (.inl c1)] at hr
    subst hr
    go_enter Try.func10, Try.ntmps10
    go_wp2
    all_goals go_ret
    all_goals first | exact ⟨rfl, rfl⟩ | omega
  by_cases c2 : h < 0
  · rw [if_pos (.inr (.inl c2))] at hr
    subst hr
    go_enter Try.func10, Try.ntmps10
    go_wp2
    all_goals go_ret
    all_goals first | exact ⟨rfl, rfl⟩ | omega
  by_cases c3 : 2147483648 ≤ h
  · rw [if_pos (.inr (.inr (.inl c3)))] at hr
    have d3 : decide (h < 2147483648) = false := decide_eq_false (by omega)
    subst hr
    go_enter Try.func10, Try.ntmps10
    go_wp2
    all_goals go_ret
    all_goals first | exact ⟨rfl, rfl⟩ | omega
  have d3 : decide (h < 2147483648) = true := decide_eq_true (by omega)
  by_cases c4 : i < 0
  · rw [if_pos (.inr (.inr (.inr (.inl c4))))] at hr
    subst hr
    go_enter Try.func10, Try.ntmps10
    go_wp2
    all_goals go_ret
    all_goals first | exact ⟨rfl, rfl⟩ | omega
  by_cases c5 : 2147483648 ≤ i
  · rw [if_pos (.inr (.inr (.inr (.inr c5))))] at hr
    have d5 : decide (i < 2147483648) = false := decide_eq_false (by omega)
    subst hr
    go_enter Try.func10, Try.ntmps10
    go_wp2
    all_goals go_ret
    all_goals first | exact ⟨rfl, rfl⟩ | omega
  have d5 : decide (i < 2147483648) = true := decide_eq_true (by omega)
  rw [if_neg (by omega)] at hr
  have HR := Lib.hid hr
  clear hr
  have hm : (h + i).tmod s = (h + i) % s := Int.tmod_eq_emod_of_nonneg (by omega)
  go_enter Try.func10, Try.ntmps10
  go_wp2
  all_goals go_ret
  all_goals (refine ⟨?_, rfl⟩; rw [HR.out]; first | rfl | (rw [← hm]; rfl))
theorem path13_any (h s : Int) (w : World) :
    Calls Try.prog 19 #[.int .i64 h, .int .i64 s] w fun e w' => e = .returned (.func (.func 20) #[] #[.pointer (some ⟨w.heap.size + 1, 0, none⟩), .pointer (some ⟨w.heap.size, 0, none⟩)]) ∧ w' = (w.alloc (.cells #[.int .i64 h] 3)).alloc (.cells #[.int .i64 s] 3) := by
  go_enter Try.func19, Try.ntmps19
  go_wp2
  go_ret
  exact ⟨rfl, rfl⟩
end Go.Proofs.Ytkneecdpkdnjfaa
namespace Go.Proofs.Ytkneecdpkdnjfaa
set_option linter.unusedVariables false
set_option linter.unusedSimpArgs false

/-! ### how many are left -/
def livI (x : Int) : Nat := if 0 < x then 1 else 0
theorem livI_le (x : Int) : livI x ≤ 1 := by unfold livI; split <;> omega
theorem livI_yes {x : Int} (h : 0 < x) : livI x = 1 := by unfold livI; rw [if_pos h]
theorem livI_no {x : Int} (h : ¬ 0 < x) : livI x = 0 := by unfold livI; rw [if_neg h]
/-- how many are left of those ahead of a place -/
def cntP (l : List Int) : Nat → Nat
  | 0 => 0
  | p + 1 => cntP l p + livI (l.getD p 0)
def manyP (l : List Int) : Nat := cntP l l.length
theorem cntP_succ (l : List Int) (p : Nat) : cntP l (p + 1) = cntP l p + livI (l.getD p 0) := rfl
theorem cntP_mono (l : List Int) {p q : Nat} (h : p ≤ q) : cntP l p ≤ cntP l q := by
  induction q with
  | zero => obtain rfl : p = 0 := by omega
            exact Nat.le_refl _
  | succ q ih =>
    by_cases hp : p = q + 1
    · subst hp; exact Nat.le_refl _
    · exact Nat.le_trans (ih (by omega)) (by rw [cntP_succ]; omega)
theorem cntP_le (l : List Int) (p : Nat) : cntP l p ≤ p := by
  induction p with
  | zero => exact Nat.le_refl _
  | succ p ih => have := livI_le (l.getD p 0); rw [cntP_succ]; omega
theorem getD_past (l : List Int) {p : Nat} (h : l.length ≤ p) : l.getD p 0 = 0 := by
  rw [List.getD_eq_getElem?_getD, List.getElem?_eq_none h]; rfl
theorem cntP_past (l : List Int) {p : Nat} (h : l.length ≤ p) : cntP l p = manyP l := by
  induction p with
  | zero => obtain h0 : l.length = 0 := by omega
            unfold manyP; rw [h0]
  | succ p ih =>
    by_cases hp : l.length = p + 1
    · unfold manyP; rw [hp]
    · rw [cntP_succ, ih (by omega), getD_past l (by omega)]; rfl
theorem cntP_many (l : List Int) (p : Nat) : cntP l p ≤ manyP l := by
  rcases Nat.le_total p l.length with h | h
  · exact cntP_mono l h
  · rw [cntP_past l h]; exact Nat.le_refl _
theorem many_le (l : List Int) : manyP l ≤ l.length := cntP_le l _
/-- the place of the one that has so many ahead of it (below a bound) -/
def kthTo (l : List Int) (r : Nat) : Nat → Nat
  | 0 => 0
  | p + 1 => if r < cntP l p + livI (l.getD p 0) ∧ cntP l p ≤ r then p else kthTo l r p
def kthP (l : List Int) (r : Nat) : Nat := kthTo l r l.length
theorem kthTo_ok (l : List Int) (r : Nat) : ∀ p, r < cntP l p → kthTo l r p < p ∧ 0 < l.getD (kthTo l r p) 0 ∧ cntP l (kthTo l r p) = r := by
  intro p
  induction p with
  | zero => intro h; exact absurd h (Nat.not_lt_zero r)
  | succ p ih =>
    intro h
    rw [cntP_succ] at h
    have hl := livI_le (l.getD p 0)
    unfold kthTo
    by_cases hc : r < cntP l p + livI (l.getD p 0) ∧ cntP l p ≤ r
    · rw [if_pos hc]
      refine ⟨by omega, ?_, by omega⟩
      by_cases h0 : 0 < l.getD p 0
      · exact h0
      · have := livI_no h0; omega
    · rw [if_neg hc]
      obtain ⟨h1, h2, h3⟩ := ih (by omega)
      exact ⟨by omega, h2, h3⟩
theorem kth_ok {l : List Int} {r : Nat} (h : r < manyP l) : kthP l r < l.length ∧ 0 < l.getD (kthP l r) 0 ∧ cntP l (kthP l r) = r := kthTo_ok l r l.length h
theorem live_lt {l : List Int} {p : Nat} (h : 0 < l.getD p 0) : p < l.length := by
  rcases Nat.lt_or_ge p l.length with h1 | h1
  · exact h1
  · rw [getD_past l h1] at h; omega
theorem live_cnt {l : List Int} {p : Nat} (h : 0 < l.getD p 0) : cntP l (p + 1) = cntP l p + 1 := by rw [cntP_succ, livI_yes h]
theorem live_many {l : List Int} {p : Nat} (h : 0 < l.getD p 0) : cntP l p < manyP l := by
  have := cntP_many l (p + 1)
  rw [live_cnt h] at this
  omega
theorem live_inj {l : List Int} {p q : Nat} (hp : 0 < l.getD p 0) (hq : 0 < l.getD q 0) (h : cntP l p = cntP l q) : p = q := by
  rcases Nat.lt_trichotomy p q with h1 | h1 | h1
  · have := cntP_mono l (show p + 1 ≤ q from h1); rw [live_cnt hp] at this; omega
  · exact h1
  · have := cntP_mono l (show q + 1 ≤ p from h1); rw [live_cnt hq] at this; omega
theorem kth_eq {l : List Int} {p r : Nat} (hp : 0 < l.getD p 0) (h : cntP l p = r) : kthP l r = p := by
  have hm := live_many hp
  obtain ⟨_, h2, h3⟩ := kth_ok (l := l) (r := r) (by omega)
  exact live_inj h2 hp (by omega)
/-- of two places: behind, if so many are ahead -/
theorem kth_lt {l : List Int} {r p : Nat} (h : r < manyP l) : kthP l r < p ↔ r < cntP l p := by
  obtain ⟨_, h2, h3⟩ := kth_ok h
  constructor
  · intro hp
    have := cntP_mono l (show kthP l r + 1 ≤ p from hp)
    rw [live_cnt h2] at this
    omega
  · intro hp
    rcases Nat.lt_or_ge (kthP l r) p with h4 | h4
    · exact h4
    · have := cntP_mono l h4; omega
theorem cntP_set (l : List Int) (k : Nat) (x : Int) (hk : k < l.length) (p : Nat) : cntP (l.set k x) p + (if k < p then livI (l.getD k 0) else 0) = cntP l p + (if k < p then livI x else 0) := by
  induction p with
  | zero => rfl
  | succ p ih =>
    rw [cntP_succ, cntP_succ]
    by_cases h1 : k < p
    · have e : (l.set k x).getD p 0 = l.getD p 0 := by simp [List.getD_eq_getElem?_getD, List.getElem?_set, show ¬ k = p by omega]
      rw [if_pos h1] at ih
      rw [if_pos h1] at ih
      rw [if_pos (by omega), if_pos (by omega), e]
      omega
    · rw [if_neg h1, if_neg h1] at ih
      by_cases h2 : k = p
      · subst h2
        have e : (l.set k x).getD k 0 = x := by simp [List.getD_eq_getElem?_getD, List.getElem?_set, hk]
        rw [if_pos (by omega), if_pos (by omega), e]
        omega
      · have e : (l.set k x).getD p 0 = l.getD p 0 := by simp [List.getD_eq_getElem?_getD, List.getElem?_set, h2]
        rw [if_neg (by omega), if_neg (by omega), e]
        omega
/-! ### who is next -/
/-- of those that are left, the how-manieth it is -/
def rankP (picks : List Int) (step : Int) (many upto : Nat) : Nat :=
  if 0 ≤ step ∧ step < picks.length then (pickI (picks.getD step.toNat 0) many).toNat else upto % many
theorem rankP_lt (picks : List Int) (step : Int) {many : Nat} (upto : Nat) (h : 0 < many) : rankP picks step many upto < many := by
  unfold rankP
  split
  · have := pickI_bd (picks.getD step.toNat 0) many (by omega); omega
  · exact Nat.mod_lt _ h
/-- how many are left up to the last one -/
def uptoP (l : List Int) (last : Int) : Nat := cntP l (last + 1).toNat
def nextN (picks : List Int) (step : Int) (l : List Int) (last : Int) : Nat := kthP l (rankP picks step (manyP l) (uptoP l last))
def nextP (picks : List Int) (step : Int) (l : List Int) (last : Int) : Int := if manyP l = 0 then -1 else (nextN picks step l last : Int)
theorem nextN_ok (picks : List Int) (step : Int) {l : List Int} (last : Int) (h : 0 < manyP l) : nextN picks step l last < l.length ∧ 0 < l.getD (nextN picks step l last) 0 ∧ cntP l (nextN picks step l last) = rankP picks step (manyP l) (uptoP l last) :=
  kth_ok (rankP_lt _ _ _ h)
/-! ### all turns -/
/-- what is left, and who was last, behind so many turns -/
def stP (picks : List Int) (l : List Int) : Nat → List Int × Int
  | 0 => (l, -1)
  | j + 1 => ((stP picks l j).1.set (nextN picks j (stP picks l j).1 (stP picks l j).2) ((stP picks l j).1.getD (nextN picks j (stP picks l j).1 (stP picks l j).2) 0 - 1), (nextN picks j (stP picks l j).1 (stP picks l j).2 : Int))
/-- who has the turn j -/
def tnP (picks : List Int) (l : List Int) (j : Nat) : Nat := nextN picks j (stP picks l j).1 (stP picks l j).2
theorem stP_succ (picks l : List Int) (j : Nat) : stP picks l (j + 1) = ((stP picks l j).1.set (tnP picks l j) ((stP picks l j).1.getD (tnP picks l j) 0 - 1), (tnP picks l j : Int)) := rfl
/-- how many turns there are -/
def totP : List Int → Nat
  | [] => 0
  | x :: l => x.toNat + totP l
theorem totP_set : ∀ (l : List Int) (k : Nat), 0 < l.getD k 0 → totP (l.set k (l.getD k 0 - 1)) + 1 = totP l := by
  intro l
  induction l with
  | nil => intro k h; simp at h
  | cons x l ih =>
    intro k h
    cases k with
    | zero => simp only [List.getD_cons_zero, List.set_cons_zero, totP] at h ⊢; omega
    | succ k =>
      simp only [List.getD_cons_succ, List.set_cons_succ, totP] at h ⊢
      have := ih k h
      omega
theorem totP_live : ∀ (l : List Int), 0 < totP l → ∃ k, 0 < l.getD k 0 := by
  intro l
  induction l with
  | nil => intro h; simp [totP] at h
  | cons x l ih =>
    intro h
    by_cases hx : 0 < x
    · exact ⟨0, by simpa using hx⟩
    · obtain ⟨k, hk⟩ := ih (by unfold totP at h; omega)
      exact ⟨k + 1, by simpa using hk⟩
theorem totP_dead : ∀ (l : List Int), totP l = 0 → ∀ k, ¬ 0 < l.getD k 0 := by
  intro l
  induction l with
  | nil => intro _ k h; simp at h
  | cons x l ih =>
    intro h k hk
    unfold totP at h
    cases k with
    | zero => simp at hk; omega
    | succ k => exact ih (by omega) k (by simpa using hk)
theorem many_pos {l : List Int} : 0 < manyP l ↔ 0 < totP l := by
  constructor
  · intro h
    obtain ⟨_, h2, _⟩ := kth_ok (l := l) (r := 0) h
    rcases Nat.eq_zero_or_pos (totP l) with h0 | h0
    · exact absurd h2 (totP_dead l h0 _)
    · exact h0
  · intro h
    obtain ⟨k, hk⟩ := totP_live l h
    have := live_many hk
    omega
theorem stP_ok (picks l : List Int) : ∀ j, j ≤ totP l → totP (stP picks l j).1 + j = totP l ∧ (stP picks l j).1.length = l.length := by
  intro j
  induction j with
  | zero => intro _; exact ⟨rfl, rfl⟩
  | succ j ih =>
    intro h
    obtain ⟨h1, h2⟩ := ih (by omega)
    have hm : 0 < manyP (stP picks l j).1 := many_pos.2 (by omega)
    obtain ⟨_, h4, _⟩ := nextN_ok picks j (stP picks l j).2 hm
    rw [stP_succ]
    have := totP_set _ _ h4
    refine ⟨?_, by rw [List.length_set]; exact h2⟩
    show totP (List.set _ (tnP picks l j) _) + _ = _
    unfold tnP
    omega
theorem tnP_ok (picks l : List Int) {j : Nat} (h : j < totP l) : 0 < manyP (stP picks l j).1 ∧ tnP picks l j < l.length ∧ 0 < (stP picks l j).1.getD (tnP picks l j) 0 ∧ nextP picks j (stP picks l j).1 (stP picks l j).2 = (tnP picks l j : Int) := by
  obtain ⟨h1, h2⟩ := stP_ok picks l j (by omega)
  have hm : 0 < manyP (stP picks l j).1 := many_pos.2 (by omega)
  obtain ⟨h3, h4, _⟩ := nextN_ok picks j (stP picks l j).2 hm
  refine ⟨hm, by rw [← h2]; exact h3, h4, ?_⟩
  unfold nextP
  rw [if_neg (by omega)]
  rfl
theorem stP_end (picks l : List Int) : manyP (stP picks l (totP l)).1 = 0 := by
  have := (stP_ok picks l (totP l) (Nat.le_refl _)).1
  rcases Nat.eq_zero_or_pos (manyP (stP picks l (totP l)).1) with h | h
  · exact h
  · have := many_pos.1 h; omega
def turnsP (picks l : List Int) : List Int := (List.range (totP l)).map fun j => (tnP picks l j : Int)
def turnsTo (picks l : List Int) (k : Nat) : List Int := (List.range k).map fun j => (tnP picks l j : Int)
theorem turnsTo_succ (picks l : List Int) (k : Nat) : turnsTo picks l (k + 1) = turnsTo picks l k ++ [(tnP picks l k : Int)] := by unfold turnsTo; rw [List.range_succ, List.map_append]; rfl
theorem turnsTo_len (picks l : List Int) (k : Nat) : (turnsTo picks l k).length = k := by unfold turnsTo; simp
theorem turns_len (picks l : List Int) : (turnsP picks l).length = totP l := turnsTo_len picks l _
theorem turnsTo_get (picks l : List Int) {k j : Nat} (h : j < k) : (turnsTo picks l k).getD j 0 = (tnP picks l j : Int) := by
  unfold turnsTo
  rw [List.getD_eq_getElem?_getD, List.getElem?_map, List.getElem?_range h]
  rfl
theorem turns_get (picks l : List Int) {j : Nat} (h : j < totP l) : (turnsP picks l).getD j 0 = (tnP picks l j : Int) := turnsTo_get picks l h
theorem stP_bd (picks l : List Int) (m : Int) (hm : ∀ k, 0 ≤ l.getD k 0 ∧ l.getD k 0 ≤ m) : ∀ j, j ≤ totP l → ∀ k, 0 ≤ (stP picks l j).1.getD k 0 ∧ (stP picks l j).1.getD k 0 ≤ m := by
  intro j
  induction j with
  | zero => intro _; exact hm
  | succ j ih =>
    intro h k
    obtain ⟨_, h2, h3, _⟩ := tnP_ok picks l (show j < totP l by omega)
    have i := ih (by omega) k
    have hl := (stP_ok picks l j (by omega)).2
    rw [stP_succ]
    show 0 ≤ (List.set _ (tnP picks l j) _).getD k 0 ∧ (List.set _ (tnP picks l j) _).getD k 0 ≤ m
    by_cases hk : tnP picks l j = k
    · subst hk
      simp only [List.getD_eq_getElem?_getD, List.getElem?_set, if_true, show tnP picks l j < (stP picks l j).1.length by omega, Option.getD_some] at i h3 ⊢
      omega
    · simp only [List.getD_eq_getElem?_getD, List.getElem?_set, if_neg hk] at i ⊢
      exact i
end Go.Proofs.Ytkneecdpkdnjfaa
namespace Go.Proofs.Ytkneecdpkdnjfaa
set_option linter.unusedVariables false
set_option linter.unusedSimpArgs false

/-- an access: its kind, its place, what is to be there, what is to be written -/
abbrev Ac := Int × Int × Int × Int
def deadA : Ac := (0, 0, 0, 0)
/-- what an access answers: the words, what was there, whether it was done, the error -/
abbrev DoT := List Int × Int × Bool × Int
def mayW (n : Int) : Bool := decide (-1152921504606846975 ≤ n) && decide (n ≤ 1152921504606846975)
def knownA (k : Int) : Bool := decide (1 ≤ k) && decide (k ≤ 4)
/-- what is to be written -/
def toA (y : Ac) (x : Int) : Int := if y.1 = 4 then x + y.2.2.2 else y.2.2.2
def doA (m : List Int) (y : Ac) : DoT :=
  if knownA y.1 = false ∨ 100000 < m.length then (m, 0, false, 1)
  else if y.2.1 < 0 ∨ (m.length : Int) ≤ y.2.1 then (m, 0, false, 2)
  else if y.1 = 1 then (m, m.getD y.2.1.toNat 0, true, 0)
  else if mayW (toA y (m.getD y.2.1.toNat 0)) = false then (m, 0, false, 2)
  else if y.1 = 3 ∧ m.getD y.2.1.toNat 0 ≠ y.2.2.1 then (m, m.getD y.2.1.toNat 0, false, 0)
  else (m.set y.2.1.toNat (toA y (m.getD y.2.1.toNat 0)), m.getD y.2.1.toNat 0, true, 0)
/-- all accesses, one behind the other; the first error ends it -/
def playA (m0 : List Int) : List Ac → List Int → List Int → List Int × List Int × Int
  | [], m, f => (m, f, 0)
  | y :: r, m, f => if (doA m y).2.2.2 = 0 then playA m0 r (doA m y).1 (f ++ [(doA m y).2.1]) else (m0, [], (doA m y).2.2.2)

theorem doA_len (m : List Int) (y : Ac) : (doA m y).1.length = m.length := by
  unfold doA
  repeat' split
  all_goals simp
theorem doA_err (m : List Int) (y : Ac) : (doA m y).2.2.2 = 0 ∨ (doA m y).2.2.2 = 1 ∨ (doA m y).2.2.2 = 2 := by
  unfold doA
  repeat' split
  all_goals simp
theorem doA_bad {m : List Int} {y : Ac} (h : (doA m y).2.2.2 ≠ 0) : doA m y = (m, 0, false, (doA m y).2.2.2) := by
  revert h
  unfold doA
  repeat' split
  all_goals simp
theorem i64_getD0 {l : List Int} (h : ∀ x ∈ l, I64 x) (j : Nat) : I64 (l.getD j 0) := by
  rw [List.getD_eq_getElem?_getD]
  by_cases hj : j < l.length
  · rw [List.getElem?_eq_getElem hj]; exact h _ (List.getElem_mem hj)
  · rw [List.getElem?_eq_none (by omega)]; exact ⟨by decide, by decide⟩
theorem doA_fine {m : List Int} (y : Ac) (h : ∀ x ∈ m, I64 x) : (∀ x ∈ (doA m y).1, I64 x) ∧ I64 (doA m y).2.1 := by
  have h0 : I64 0 := ⟨by decide, by decide⟩
  have hg := i64_getD0 h y.2.1.toNat
  unfold doA
  split
  · exact ⟨h, h0⟩
  split
  · exact ⟨h, h0⟩
  split
  · exact ⟨h, hg⟩
  split
  · exact ⟨h, h0⟩
  rename_i hm
  split
  · exact ⟨h, hg⟩
  refine ⟨fun x hx => ?_, hg⟩
  rcases List.mem_or_eq_of_mem_set hx with hx | rfl
  · exact h x hx
  · simp only [mayW, Bool.not_eq_false, Bool.and_eq_true, decide_eq_true_eq] at hm
    unfold I64
    omega
theorem playA_cons (m0 : List Int) (y : Ac) (r : List Ac) (m f : List Int) : playA m0 (y :: r) m f = if (doA m y).2.2.2 = 0 then playA m0 r (doA m y).1 (f ++ [(doA m y).2.1]) else (m0, [], (doA m y).2.2.2) := rfl
theorem playA_append (m0 : List Int) (l r : List Ac) : ∀ (m f : List Int), (playA m0 l m f).2.2 = 0 → playA m0 (l ++ r) m f = playA m0 r (playA m0 l m f).1 (playA m0 l m f).2.1 := by
  induction l with
  | nil => intro m f _; rfl
  | cons y l ih =>
    intro m f h
    rw [List.cons_append, playA_cons]
    rw [playA_cons] at h ⊢
    by_cases h0 : (doA m y).2.2.2 = 0
    · rw [if_pos h0] at h ⊢
      rw [if_pos h0]
      exact ih _ _ h
    · rw [if_neg h0] at h
      exact absurd h h0
/-- accesses of which none is an error -/
def GoodA (m : List Int) : List Ac → Prop
  | [] => True
  | y :: r => (doA m y).2.2.2 = 0 ∧ GoodA (doA m y).1 r
def wordsA (m : List Int) : List Ac → List Int
  | [] => m
  | y :: r => wordsA (doA m y).1 r
def foundA (m : List Int) : List Ac → List Int
  | [] => []
  | y :: r => (doA m y).2.1 :: foundA (doA m y).1 r
theorem playA_good (m0 : List Int) (l : List Ac) : ∀ (m f : List Int), GoodA m l → playA m0 l m f = (wordsA m l, f ++ foundA m l, 0) := by
  induction l with
  | nil => intro m f _; simp [playA, wordsA, foundA]
  | cons y l ih =>
    intro m f h
    rw [playA_cons, if_pos h.1, ih _ _ h.2]
    simp [wordsA, foundA]
theorem foundA_len (l : List Ac) : ∀ m, (foundA m l).length = l.length := by
  induction l with
  | nil => intro m; rfl
  | cons y l ih => intro m; simp [foundA, ih]
theorem wordsA_len (l : List Ac) : ∀ m, (wordsA m l).length = m.length := by
  induction l with
  | nil => intro m; rfl
  | cons y l ih => intro m; rw [wordsA, ih, doA_len]
theorem wordsA_append (l r : List Ac) : ∀ m, wordsA m (l ++ r) = wordsA (wordsA m l) r := by
  induction l with
  | nil => intro m; rfl
  | cons y l ih => intro m; exact ih _
theorem foundA_append (l r : List Ac) : ∀ m, foundA m (l ++ r) = foundA m l ++ foundA (wordsA m l) r := by
  induction l with
  | nil => intro m; rfl
  | cons y l ih => intro m; simp [foundA, wordsA, ih]
theorem goodA_append (l r : List Ac) : ∀ m, GoodA m (l ++ r) ↔ GoodA m l ∧ GoodA (wordsA m l) r := by
  induction l with
  | nil => intro m; simp [GoodA, wordsA]
  | cons y l ih => intro m; simp [GoodA, wordsA, ih, and_assoc]
end Go.Proofs.Ytkneecdpkdnjfaa
namespace Go.Proofs.Ytkneecdpkdnjfaa
set_option maxRecDepth 100000
set_option linter.unusedVariables false
set_option linter.unusedSimpArgs false
open Go.RowKit Go.Sort

abbrev acV (y : Ac) : Value := .agg #[.int .i64 y.1, .int .i64 y.2.1, .int .i64 y.2.2.1, .int .i64 y.2.2.2]
abbrev stepV (y : Ac) (A : Option Addr) (n c : Nat) : Value := .agg #[.int .i64 y.1, .int .i64 y.2.1, .int .i64 y.2.2.1, .int .i64 y.2.2.2, .slice A n c]
def Fine4A (y : Ac) : Prop := I64 y.1 ∧ I64 y.2.1 ∧ I64 y.2.2.1 ∧ I64 y.2.2.2

theorem add_cases {x n : Int} (hn : I64 n) (hx : I64 x) :
    (mayW (wrap64 (x + n)) = false ∧ mayW (x + n) = false) ∨ (mayW (wrap64 (x + n)) = true ∧ mayW (x + n) = true ∧ wrap64 (x + n) = x + n ∧ decide (n < 0) = decide (wrap64 (x + n) < x)) ∨
      (mayW (wrap64 (x + n)) = true ∧ mayW (x + n) = false ∧ decide (n < 0) = !decide (wrap64 (x + n) < x)) := by
  unfold I64 at hn hx
  have hs : wrap64 (x + n) = x + n ∨ (0 < n ∧ wrap64 (x + n) = x + n - 18446744073709551616 ∧ 9223372036854775807 < x + n) ∨ (n < 0 ∧ wrap64 (x + n) = x + n + 18446744073709551616 ∧ x + n < -9223372036854775808) := by
    unfold wrap64; omega
  cases hm : mayW (wrap64 (x + n)) with
  | false =>
    left
    refine ⟨rfl, ?_⟩
    rcases hs with hs | ⟨_, _, h⟩ | ⟨_, _, h⟩
    · rw [← hs]; exact hm
    · unfold mayW; rw [decide_eq_false (p := x + n ≤ 1152921504606846975) (by omega), Bool.and_false]
    · unfold mayW; rw [decide_eq_false (p := -1152921504606846975 ≤ x + n) (by omega), Bool.false_and]
  | true =>
    right
    rcases hs with hs | ⟨h1, h2, h⟩ | ⟨h1, h2, h⟩
    · left
      rw [hs] at hm ⊢
      exact ⟨rfl, hm, rfl, decide_eq_decide.2 (by omega)⟩
    · right
      refine ⟨rfl, ?_, ?_⟩
      · unfold mayW; rw [decide_eq_false (p := x + n ≤ 1152921504606846975) (by omega), Bool.and_false]
      · rw [decide_eq_false (p := n < 0) (by omega), decide_eq_true (p := wrap64 (x + n) < x) (by omega)]; rfl
    · right
      refine ⟨rfl, ?_, ?_⟩
      · unfold mayW; rw [decide_eq_false (p := -1152921504606846975 ≤ x + n) (by omega), Bool.false_and]
      · rw [decide_eq_true (p := n < 0) (by omega), decide_eq_false (p := wrap64 (x + n) < x) (by omega)]; rfl
end Go.Proofs.Ytkneecdpkdnjfaa
namespace Go.Proofs.Ytkneecdpkdnjfaa
set_option maxRecDepth 100000
set_option linter.unusedVariables false
set_option linter.unusedSimpArgs false
open Go.RowKit Go.Sort

theorem grown_below {w w' : World} (h : Below w.heap.size w w') (row : Option Nat) : w.grownBy w' row := ⟨h.os, h.tape, h.output, h.size, fun k hk _ => h.block k hk⟩
theorem lt_heap6' {w : World} {g : Nat} {o : Obj} (h : w.heap[g]? = some o) : g < w.heap.size := (Array.getElem?_eq_some_iff.1 h).1
theorem own_next {w w' : World} {B : Nat} {v : Value} {l : List Int} (h : Own w B v l) (hb : Below w.heap.size w w') : Own w' B v l := h.kept (grown_below hb none) (by cases v.ownBlock <;> simp)
theorem own_row {w : World} {B : Nat} {A : Option Addr} {c : Nat} {l : List Int} (h : Own w B (.slice A l.length c) l) (hl : 0 < l.length) : ∃ g, A = some ⟨g, 0, none⟩ ∧ B ≤ g ∧ g < w.heap.size ∧ (∀ j, w.frozen? ⟨g, j, none⟩ = false) ∧
    ∀ j, j < l.length → w.cell? ⟨g, j, none⟩ = some (.int .i64 (l.getD j 0)) := by
  rcases h.2 with ⟨_, h0⟩ | ⟨g, cap, cur, hv, _⟩
  · omega
  · injection hv with e1 e2 e3
    subst e1 e3
    have hlt := h.lt g rfl
    refine ⟨g, rfl, hlt.1, hlt.2, fun j => h.frozenAt j, fun j hj => ?_⟩
    rw [h.cellAt j (by omega)]
    simp [List.getD_eq_getElem?_getD, List.getElem?_eq_getElem hj]
theorem own_set {w : World} {B g c : Nat} {l : List Int} (h : Own w B (.slice (some ⟨g, 0, none⟩) l.length c) l) (j : Nat) (x : Int) :
    Own (w.setCell ⟨g, j, none⟩ (.int .i64 x)) B (.slice (some ⟨g, 0, none⟩) l.length c) (l.set j x) ∧ w.grownBy (w.setCell ⟨g, j, none⟩ (.int .i64 x)) (some g) := by
  obtain ⟨h1, h2⟩ := h.stored j (.int .i64 x)
  refine ⟨?_, h2⟩
  show World.ownsRow _ _ _ _ _ _ _
  rw [List.length_set, List.map_set]
  exact h1
/-- what Do tells: what was there, whether it was done, the error; the words as they are then -/
def DoR (B : Nat) (v : Value) (d : DoT) (w : World) (r : Ending) (w' : World) : Prop := r = .returned (.tuple #[.int .i64 d.2.1, .bool d.2.2.1, .int .i64 d.2.2.2]) ∧ Own w' B v d.1 ∧ w.grownBy w' v.ownBlock

end Go.Proofs.Ytkneecdpkdnjfaa
namespace Go.Proofs.Ytkneecdpkdnjfaa
set_option maxRecDepth 100000
set_option linter.unusedVariables false
set_option linter.unusedSimpArgs false
open Go.RowKit Go.Sort

theorem appW_any {w : World} {B : Nat} {v : Value} {out m : List Int} {A : Option Addr} (c : Nat) (hB : B ≤ w.heap.size) (ho : Own w B v out) (hm : Now w A m) (hl : out.length + m.length ≤ 17592186044416) :
    ∃ v' w', (Builtin.append_ #[25, 25] 25 #[v, .slice A m.length c]).run Try.prog w = .ok v' w' ∧ Own w' B v' (out ++ m) ∧ w.grownBy w' v.ownBlock := by
  obtain ⟨i0, hi, hz0, hz1, hz2⟩ := info_parts info_int
  by_cases h0 : m.length = 0
  · have : m = [] := List.eq_nil_of_length_eq_zero h0
    subst this
    cases A with
    | none => exact ⟨v, w, append_none c ho, by rw [List.append_nil]; exact ho, ⟨rfl, rfl, rfl, Nat.le_refl _, fun _ _ _ => rfl⟩⟩
    | some a =>
      obtain ⟨v', w', hr, h2, h3, _⟩ := run_append_own (P := Try.prog) (w := w) B 25 25 3 i0 (.int .i64 0) 1 8 Try.underlying25 hi hz0 hz1 hz2 rfl (by decide) v out.length (fl out) ho a 0 c [] rfl (fun j u h => by simp at h) (fun u h => by cases h) (by unfold maxLen; omega) (by omega) hB
      exact ⟨v', w', hr, by rw [List.append_nil] at h2 ⊢; exact h2, h3⟩
  · obtain ⟨b, off, rfl, _, hcell⟩ := hm.at_ (by omega)
    obtain ⟨v', w', hr, h2, h3, _⟩ := run_append_own (P := Try.prog) (w := w) B 25 25 3 i0 (.int .i64 0) 1 8 Try.underlying25 hi hz0 hz1 hz2 rfl (by decide) v out.length (fl out) ho ⟨b, off, none⟩ m.length c (fl m) (length_fl m) (fl_at hcell) (fl_cell1 m) (by unfold maxLen; omega) (by omega) hB
    refine ⟨v', w', hr, ?_, h3⟩
    show World.ownsRow _ _ _ _ _ _ (fl (out ++ m))
    rw [fl_append, List.length_append]
    exact h2
/-- one number more, that lies in a new block -/
theorem pushW_any {w : World} {B : Nat} {v : Value} {out : List Int} (x : Int) (hB : B ≤ w.heap.size) (ho : Own w B v out) (hl : out.length < 17592186044416) :
    ∃ v' w', (Builtin.append_ #[25, 25] 25 #[v, .slice (some ⟨w.heap.size, 0, none⟩) 1 1]).run Try.prog (w.alloc (.cells #[.int .i64 x] 3)) = .ok v' w' ∧ Own w' B v' (out ++ [x]) ∧ w.grownBy w' v.ownBlock := by
  have hm : Now (w.alloc (.cells #[.int .i64 x] 3)) (some ⟨w.heap.size, 0, none⟩) [x] := fun j hj => by
    have hj1 : j = 0 := by simp at hj; omega
    subst hj1
    exact ⟨w.heap.size, 0, rfl, by simp, by simp⟩
  have ho' : Own (w.alloc (.cells #[.int .i64 x] 3)) B v out := World.ownsRow.alloc ho _
  obtain ⟨v', w', hr, h1, h2⟩ := appW_any (m := [x]) 1 (by simp; omega) ho' hm (by simp; omega)
  exact ⟨v', w', hr, h1, (World.grownBy_alloc w _ _).trans h2⟩
def CloneR (l : List Int) (w : World) (r : Ending) (w' : World) : Prop := ∃ v, r = .returned v ∧ Own w' w.heap.size v l ∧ Below w.heap.size w w'
theorem eql_nil10 (A : Option Addr) (n c : Nat) (w : World) : (binOp .eql 25 (.slice A n c) (.slice none 0 0)).run Try.prog w = .ok (.bool A.isNone) w := by
  have h := run_neq_slice_nil_any (P := Try.prog) w 25 3 A n c 0 0 Try.underlying25
  simp only [binOp] at h ⊢
  cases A <;> simp_all [Op.equal, Op.maxDepth, Lib.run_equalIn_slice_nil w 9999 25 3 _ n c 0 0 Try.underlying25]
theorem now_none {w : World} {l : List Int} (h : Now w none l) : l = [] := by
  cases l with
  | nil => rfl
  | cons x r => obtain ⟨b, off, e, _⟩ := h 0 (by simp); cases e
theorem results_tmp4 {fn : Func} {t u v x : Tmp} (h : fn.results = #[.tmp t, .tmp u, .tmp v, .tmp x]) (tmps : Array Value) (P : Program) (w : World) :
    (results fn tmps).run P w = .ok (.tuple #[tmps.getD t undef, tmps.getD u undef, tmps.getD v undef, tmps.getD x undef]) w := by
  simp [results, h]
/-- what Do answers -/
def DoAns (d : DoT) (w : World) (r : Ending) (w' : World) : Prop := ∃ A c, r = .returned (.tuple #[.slice A d.1.length c, .int .i64 d.2.1, .bool d.2.2.1, .int .i64 d.2.2.2]) ∧ d.1.length ≤ c ∧ Now w' A d.1 ∧ Below w.heap.size w w'
theorem own_slice {w : World} {B : Nat} {v : Value} {l : List Int} (h : Own w B v l) : ∃ A c, v = .slice A l.length c ∧ l.length ≤ c ∧ Now w A l := h.reads
end Go.Proofs.Ytkneecdpkdnjfaa
namespace Go.Proofs.Ytkneecdpkdnjfaa
set_option maxRecDepth 100000
set_option linter.unusedVariables false
set_option linter.unusedSimpArgs false
open Go.RowKit Go.Sort

/-- what is left of raw numbers -/
def leftTo (raw : List Int) (k : Nat) : List Int := (raw.take k).map fun x => pickI x 8
def leftP (raw : List Int) : List Int := leftTo raw (min raw.length 10)
theorem leftTo_len (raw : List Int) {k : Nat} (h : k ≤ raw.length) : (leftTo raw k).length = k := by unfold leftTo; simp; omega
theorem leftTo_succ {raw : List Int} {k : Nat} (h : k < raw.length) : leftTo raw (k + 1) = leftTo raw k ++ [pickI (raw.getD k 0) 8] := by
  unfold leftTo
  rw [List.take_add_one, List.map_append, List.getD_eq_getElem?_getD, List.getElem?_eq_getElem h]
  rfl
theorem leftP_len (raw : List Int) : (leftP raw).length ≤ 10 := by
  unfold leftP
  rw [leftTo_len raw (by omega)]
  omega
theorem leftP_bd (raw : List Int) (k : Nat) : 0 ≤ (leftP raw).getD k 0 ∧ (leftP raw).getD k 0 ≤ 7 := by
  by_cases h : k < (leftP raw).length
  · rw [List.getD_eq_getElem?_getD, List.getElem?_eq_getElem h, Option.getD_some]
    have hm := List.getElem_mem h
    unfold leftP leftTo at hm
    obtain ⟨x, _, hx⟩ := List.mem_map.1 hm
    have := pickI_bd x 8 (by decide)
    simp only [← hx, leftP, leftTo] at this ⊢
    omega
  · rw [getD_past _ (by omega)]; decide
def OwnI (l : List Int) (w : World) (r : Ending) (w' : World) : Prop := ∃ v, r = .returned v ∧ Own w' w.heap.size v l ∧ Below w.heap.size w w'
/-! ### rankOf -/
theorem rankP_no {picks : List Int} {step : Int} {m u : Nat} (h : step < 0 ∨ (picks.length : Int) ≤ step) : rankP picks step m u = u % m := by
  unfold rankP
  rw [if_neg (by omega)]
theorem rankP_yes {picks : List Int} {s m u : Nat} (h : s < picks.length) : rankP picks (s : Int) m u = (pickI (picks.getD s 0) m).toNat := by
  unfold rankP
  rw [if_pos (by omega), Int.toNat_natCast]
/-! ### lowest, bits.Len -/
def lowN (n : Nat) : Nat := if n % 2 = 1 then 1 else if n % 4 = 2 then 2 else if n % 8 = 4 then 4 else if n % 16 = 8 then 8 else 16
def lenN (n : Nat) : Nat := if n = 0 then 0 else if n < 2 then 1 else if n < 4 then 2 else if n < 8 then 3 else 4
end Go.Proofs.Ytkneecdpkdnjfaa
