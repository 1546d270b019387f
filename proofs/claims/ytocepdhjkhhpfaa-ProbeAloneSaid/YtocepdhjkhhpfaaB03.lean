/-
  Texts that the claims of this seat share, part 3.
-/
import Derived.Test.YtocepdhjkhhpfaaB02
import Derived.Test.YtocepdhjkhhpfaaB00
import Derived.ProofKit
import Derived.OpenShut
import Derived.ChangeOld
import Derived.Deep.Slices
import Derived.Deep.Fields
import Derived.Deep.Strs
set_option linter.unusedVariables false
set_option linter.unusedSimpArgs false
namespace Go.Proofs.Ytocepdhjkhhpfaa
set_option linter.unusedVariables false
set_option linter.unusedSimpArgs false
open Go.RowKit Go.Sort

def dead5 : Raw5 := (0, 0, 0, 0, 0)
/-- five numbers lie here -/
def R5At (w : World) (b o : Nat) (r : Raw5) : Prop := w.cell? ⟨b, o, none⟩ = some (.int .i64 r.1) ∧ w.cell? ⟨b, o + 1, none⟩ = some (.int .i64 r.2.1) ∧ w.cell? ⟨b, o + 2, none⟩ = some (.int .i64 r.2.2.1) ∧ w.cell? ⟨b, o + 3, none⟩ = some (.int .i64 r.2.2.2.1) ∧ w.cell? ⟨b, o + 4, none⟩ = some (.int .i64 r.2.2.2.2)
theorem R5At.below {w w' : World} {b o B : Nat} {r : Raw5} (h : R5At w b o r) (hb : Below B w w') (hx : b < B) : R5At w' b o r := by
  obtain ⟨h0, h1, h2, h3, h4⟩ := h
  exact ⟨(hb.cell (p := ⟨b, o, none⟩) hx).trans h0, (hb.cell (p := ⟨b, o + 1, none⟩) hx).trans h1, (hb.cell (p := ⟨b, o + 2, none⟩) hx).trans h2, (hb.cell (p := ⟨b, o + 3, none⟩) hx).trans h3, (hb.cell (p := ⟨b, o + 4, none⟩) hx).trans h4⟩
/-- The slice at A reads as raw numbers, five by five. -/
def RdR (w : World) (B : Nat) (A : Option Addr) (l : List Raw5) : Prop :=
  ∀ j, j < l.length → ∃ b off, A = some ⟨b, off, none⟩ ∧ b < B ∧ R5At w b (off + j * 5) (l.getD j dead5)
theorem RdR.below {w w' : World} {B B' : Nat} {A : Option Addr} {l : List Raw5} (h : RdR w B A l) (hb : Below B' w w') (hB : B ≤ B') : RdR w' B A l := fun j hj => by
  obtain ⟨b, off, e, hlt, h0⟩ := h j hj
  exact ⟨b, off, e, hlt, h0.below hb (Nat.lt_of_lt_of_le hlt hB)⟩
end Go.Proofs.Ytocepdhjkhhpfaa
namespace Go.Proofs.Ytocepdhjkhhpfaa
set_option linter.unusedVariables false
open Go.ChangeShapes Go.WideShapes Go.ChangeAt Go.RowKit Go.Deep

theorem i64_wf6 {a : Int} (h : (Lit.int .i64 a).wf = true) : I64 a := by
  have : IntKind.i64.min ≤ a ∧ a ≤ IntKind.i64.max := by simpa [Lit.wf] using h
  simpa [I64, IntKind.min, IntKind.max, IntKind.signed, IntKind.bits] using this

section
variable {H : Type} {enc : TypeId × Value → H} {w : World} {base : Nat} {spare : Nat → Bool} {held : Bool} {P : Program}
theorem exists_list6 {α : Type} (d : α) {n : Nat} {Q : Nat → α → Prop} (h : ∀ i, i < n → ∃ p, Q i p) : ∃ l : List α, l.length = n ∧ ∀ i, i < n → Q i (l.getD i d) := by
  induction n with
  | zero => exact ⟨[], rfl, fun i hi => absurd hi (Nat.not_lt_zero i)⟩
  | succ n ih =>
    obtain ⟨l, hl, hq⟩ := ih fun i hi => h i (by omega)
    obtain ⟨p, hp⟩ := h n (by omega)
    refine ⟨l ++ [p], by simp [hl], fun i hi => ?_⟩
    by_cases hin : i < n
    · rw [List.getD_eq_getElem?_getD, List.getElem?_append_left (by omega), ← List.getD_eq_getElem?_getD]
      exact hq i hin
    · have : i = n := by omega
      subst this
      rw [List.getD_eq_getElem?_getD, List.getElem?_append_right (by omega), hl]
      simpa using hp
/-- an array of numbers -/
theorem ints_in {t e : TypeId} {n fuel : Nat} {cs : List Value} {x : DataW H × List MemPlace} (ht : P.underlying t = some (.array n e)) (he : P.underlying e = some (.int .i64)) (h1 : P.cellsOf e = 1) (hn : P.cellsOf t = n)
    (h : DataW.trod enc P w base spare held fuel t cs = some x) : ∃ l : List Int, l.length = n ∧ cs = l.map (Value.int .i64) ∧ ∀ i, i < n → I64 (l.getD i 0) := by
  obtain ⟨xs, m, _, _, hlen, hxl, hx⟩ := DataW.trod_array ht h
  rw [hn] at hlen
  have hq : ∀ i, i < n → ∃ u : Int, cs[i]? = some (.int .i64 u) ∧ I64 u := by
    intro i hi
    have h2 := hx i hi
    rw [h1, List.getElem?_eq_getElem (by omega)] at h2
    obtain ⟨u, hu, _, wu⟩ := DataW.trod_int he h2
    refine ⟨u, ?_, i64_wf6 wu⟩
    have h3 : ((cs.drop (i * 1)).take 1)[0]? = some (.int .i64 u) := by rw [hu]; rfl
    simpa using h3
  obtain ⟨l, hl, hlq⟩ := exists_list6 0 hq
  refine ⟨l, hl, ?_, fun i hi => (hlq i hi).2⟩
  refine List.ext_getElem? fun i => ?_
  by_cases hi : i < n
  · rw [(hlq i hi).1, List.getElem?_map, List.getElem?_eq_getElem (by omega), List.getD_eq_getElem?_getD, List.getElem?_eq_getElem (by omega)]
    rfl
  · rw [List.getElem?_eq_none (by omega), List.getElem?_eq_none (by rw [List.length_map]; omega)]
/-- a slice whose elements take some cells each -/
theorem els_in {α : Type} (dec : α → List Value) (d : α) (Q : α → Prop) (n : Nat) (hn0 : 0 < n) {t e : TypeId} {fuel : Nat} {a0 : Option Addr} {len0 cap0 : Nat} {x : DataW H × List MemPlace} (hdec : ∀ a, (dec a).length = n) (ht : P.underlying t = some (.slice e)) (hn : P.cellsOf e = n)
    (he : ∀ fuel cs (y : DataW H × List MemPlace), DataW.trod enc P w base spare held fuel e cs = some y → ∃ a, cs = dec a ∧ Q a)
    (h : DataW.trod enc P w base spare held fuel t [.slice a0 len0 cap0] = some x) :
    ∃ l : List α, l.length = len0 ∧ len0 ≤ cap0 ∧ cap0 ≤ maxLen ∧ (∀ j, j < l.length → ∃ b off, a0 = some ⟨b, off, none⟩ ∧ b < w.heap.size ∧ ∀ i, i < n → w.cell? ⟨b, off + j * n + i, none⟩ = (dec (l.getD j d))[i]?) ∧ ∀ j, j < l.length → Q (l.getD j d) := by
  rcases open_slice ht h with ⟨hcs, _⟩ | ⟨a, len, cap, m, k, D, Pl, hcs, hb, hl, hm, hmm, _, hi⟩
  · simp at hcs
    obtain ⟨rfl, rfl, rfl⟩ := hcs
    exact ⟨[], rfl, Nat.le_refl _, by simp [maxLen], fun j hj => absurd hj (Nat.not_lt_zero j), fun j hj => absurd hj (Nat.not_lt_zero j)⟩
  · simp at hcs
    obtain ⟨rfl, rfl, rfl⟩ := hcs
    have hlm : len0 ≤ m := by rw [hmm]; split <;> omega
    have hq : ∀ i, i < len0 → ∃ p : α, (∀ q, q < n → w.cell? ((a.add (i * n)).add q) = (dec p)[q]?) ∧ Q p := by
      intro i hi'
      obtain ⟨cs', hc, ht'⟩ := hi i (by omega)
      rw [hn] at hc
      obtain ⟨p, rfl, hp⟩ := he _ _ _ ht'
      obtain ⟨_, _, hat⟩ := World.cells?_some hc
      exact ⟨p, fun q hq => hat q (by omega), hp⟩
    obtain ⟨l, hll, hlq⟩ := exists_list6 d hq
    refine ⟨l, hll, hl, hm, fun j hj => ?_, fun j hj => (hlq j (by omega)).2⟩
    obtain ⟨b, off, spot⟩ := a
    have hc := (hlq j (by omega)).1
    have h0 := hc 0 hn0
    rw [List.getElem?_eq_getElem (by rw [hdec]; exact hn0)] at h0
    have h00 := (hlq 0 (by omega)).1 0 hn0
    rw [List.getElem?_eq_getElem (by rw [hdec]; exact hn0)] at h00
    have hspot : spot = none := by simpa [Addr.add] using World.cell?_spot h00
    subst hspot
    refine ⟨b, off, rfl, ?_, fun i hi => ?_⟩
    · rw [Addr.add_lit] at h0
      exact block_lt_of_cell h0
    · have := hc i hi
      rw [Addr.add_lit, Addr.add_lit] at this
      exact this
def dec4 (k : Kd) : List Value := [.int .i64 k.1, .int .i64 k.2.1, .int .i64 k.2.2.1, .int .i64 k.2.2.2]
def Fine4 (k : Kd) : Prop := I64 k.1 ∧ I64 k.2.1 ∧ I64 k.2.2.1 ∧ I64 k.2.2.2
theorem four_in {t e : TypeId} {fuel : Nat} {cs : List Value} {x : DataW H × List MemPlace} (ht : P.underlying t = some (.array 4 e)) (he : P.underlying e = some (.int .i64)) (h1 : P.cellsOf e = 1) (hn : P.cellsOf t = 4)
    (h : DataW.trod enc P w base spare held fuel t cs = some x) : ∃ k : Kd, cs = dec4 k ∧ Fine4 k := by
  obtain ⟨l, hl, rfl, hI⟩ := ints_in ht he h1 hn h
  match l, hl with
  | [a, b, c, d], _ => exact ⟨(a, b, c, d), rfl, hI 0 (by decide), hI 1 (by decide), hI 2 (by decide), hI 3 (by decide)⟩
end
end Go.Proofs.Ytocepdhjkhhpfaa
namespace Go.Proofs.Ytocepdhjkhhpfaa
set_option maxRecDepth 100000
set_option linter.unusedVariables false
set_option linter.unusedSimpArgs false
open Go.RowKit Go.Sort

/-- the last 31 bits -/
def lowH (k : Int) : Nat := (k % 2147483648).toNat
theorem lowH_lt (k : Int) : lowH k < 2147483648 := by unfold lowH; omega
def rndH (h : Nat) (k : Int) : Nat := (h ^^^ lowH k) * 16777619 % 2147483648
theorem rndH_lt (h : Nat) (k : Int) : rndH h k < 2147483648 := Nat.mod_lt _ (by decide)
def kdH (k : Kd) : Nat → Int | 0 => k.1 | 1 => k.2.1 | 2 => k.2.2.1 | _ => k.2.2.2
def ofTo (k : Kd) : Nat → Nat | 0 => 17 | i + 1 => rndH (ofTo k i) (kdH k i)
theorem ofTo_lt (k : Kd) (i : Nat) : ofTo k i < 2147483648 := by cases i with | zero => (show (17 : Nat) < 2147483648; decide) | succ i => exact rndH_lt _ _
def mixH (h : Nat) : Nat := h ^^^ h / 32768
def ofH (k : Kd) : Nat := mixH (ofTo k 4)
theorem xor_lt31 {a b : Nat} (ha : a < 2147483648) (hb : b < 2147483648) : a ^^^ b < 2147483648 := Nat.xor_lt_two_pow (n := 31) ha hb
theorem mixH_lt {h : Nat} (hh : h < 2147483648) : mixH h < 2147483648 := xor_lt31 hh (by omega)
theorem ofH_lt (k : Kd) : ofH k < 2147483648 := mixH_lt (ofTo_lt k 4)

/-! ### bits as the text asks for them -/
theorem and31 {k : Int} (h : I64 k) : bits .and .i64 k 2147483647 = (lowH k : Int) := by
  obtain ⟨h1, h2⟩ := h
  have e : (BitVec.ofInt IntKind.i64.bits k &&& BitVec.ofInt IntKind.i64.bits 2147483647).toNat = lowH k := by
    rw [BitVec.toNat_and]
    have e1 : (BitVec.ofInt IntKind.i64.bits k).toNat = (k % 18446744073709551616).toNat := by
      rw [BitVec.toNat_ofInt]
      rfl
    have e2 : (BitVec.ofInt IntKind.i64.bits 2147483647).toNat = 2 ^ 31 - 1 := by decide
    rw [e1, e2, Nat.and_two_pow_sub_one_eq_mod]
    unfold lowH
    omega
  show IntKind.i64.wrap _ = _
  rw [e, IntKind.wrap_i64]
  have := lowH_lt k
  omega
theorem xor31 {a b : Nat} (ha : a < 2147483648) (hb : b < 2147483648) : bits .xor .i64 (a : Int) (b : Int) = ((a ^^^ b : Nat) : Int) := by
  have e : (BitVec.ofInt IntKind.i64.bits (a : Int) ^^^ BitVec.ofInt IntKind.i64.bits (b : Int)).toNat = a ^^^ b := by
    rw [BitVec.toNat_xor]
    have e1 : ∀ c : Nat, c < 2147483648 → (BitVec.ofInt IntKind.i64.bits (c : Int)).toNat = c := by
      intro c hc
      rw [BitVec.toNat_ofInt]
      show ((c : Int) % ((2 ^ 64 : Nat) : Int)).toNat = c
      omega
    rw [e1 a ha, e1 b hb]
  show IntKind.i64.wrap _ = _
  rw [e, IntKind.wrap_i64]
  have := xor_lt31 ha hb
  omega

/-! ### one and the same number: one and the same kid -/
/-! ### slots, paths -/
def slotH (h i s : Int) : Int := if s < 1 ∨ h < 0 ∨ 2147483648 ≤ h ∨ i < 0 ∨ 2147483648 ≤ i then 0 else (h + i) % s
end Go.Proofs.Ytocepdhjkhhpfaa
namespace Go.Proofs.Ytocepdhjkhhpfaa
set_option maxRecDepth 100000
set_option linter.unusedVariables false
set_option linter.unusedSimpArgs false
open Go.RowKit Go.Sort

theorem kdH_fine {k : Kd} (h : Fine4 k) (i : Nat) : I64 (kdH k i) := by
  obtain ⟨h0, h1, h2, h3⟩ := h
  match i with
  | 0 => exact h0
  | 1 => exact h1
  | 2 => exact h2
  | _ + 3 => exact h3
/-- one round's numbers, as the text reckons them -/
theorem round_num {h : Nat} {k : Int} (hh : h < 2147483648) (hk : I64 k) : ∃ u x : Nat, bits .and .i64 k 2147483647 = (u : Int) ∧ bits .xor .i64 (h : Int) (u : Int) = (x : Int) ∧ x < 2147483648 ∧ rndH h k = x * 16777619 % 2147483648 :=
  ⟨lowH k, h ^^^ lowH k, and31 hk, xor31 hh (lowH_lt k), xor_lt31 hh (lowH_lt k), rfl⟩
theorem mix_num {h : Nat} (hh : h < 2147483648) : bits .xor .i64 (h : Int) ((h / 32768 : Nat) : Int) = (mixH h : Int) := xor31 hh (by omega)
set_option maxHeartbeats 4000000 in
theorem of13_any (k : Kd) (w : World) (hk : Fine4 k) :
    Calls Try.prog 127 #[kidsV k] w fun e w' => e = .returned (.int .i64 (ofH k : Int)) ∧ Below w.heap.size w w' := by
  have HK := Lib.hid hk
  clear hk
  have HB : Hid (Below w.heap.size w (w.alloc (.cells #[.int .i64 k.1, .int .i64 k.2.1, .int .i64 k.2.2.1, .int .i64 k.2.2.2] 53))) := (Below.refl _ _).alloc (Nat.le_refl _) _
  have HR := Lib.hid (heap_alloc_new w (.cells #[.int .i64 k.1, .int .i64 k.2.1, .int .i64 k.2.2.1, .int .i64 k.2.2.2] 53))
  unfold kidsV
  have i0 : ∀ w : World, (Instr.index 53 (.agg #[.int .i64 k.1, .int .i64 k.2.1, .int .i64 k.2.2.1, .int .i64 k.2.2.2]) (.int .i64 0)).run Try.prog w = .ok (.int .i64 k.1) w := fun _ => by kernel_rfl
  have i1 : ∀ w : World, (Instr.index 53 (.agg #[.int .i64 k.1, .int .i64 k.2.1, .int .i64 k.2.2.1, .int .i64 k.2.2.2]) (.int .i64 1)).run Try.prog w = .ok (.int .i64 k.2.1) w := fun _ => by kernel_rfl
  have i2 : ∀ w : World, (Instr.index 53 (.agg #[.int .i64 k.1, .int .i64 k.2.1, .int .i64 k.2.2.1, .int .i64 k.2.2.2]) (.int .i64 2)).run Try.prog w = .ok (.int .i64 k.2.2.1) w := fun _ => by kernel_rfl
  have i3 : ∀ w : World, (Instr.index 53 (.agg #[.int .i64 k.1, .int .i64 k.2.1, .int .i64 k.2.2.1, .int .i64 k.2.2.2]) (.int .i64 3)).run Try.prog w = .ok (.int .i64 k.2.2.2) w := fun _ => by kernel_rfl
  go_enter Try.func127, Try.ntmps127
  go_wp2
  go_loopw [3, 5, 7] (fun h kid i wr => ∃ j : Nat, j ≤ 4 ∧ i = .int .i64 j ∧ h = .int .i64 (ofTo k j : Int) ∧ Hid (Below w.heap.size w wr)) (fun _ _ i _ => 4 - (intOf i).toNat)
  case atStart => exact ⟨0, by omega, rfl, rfl, HB.out⟩
  case round =>
    obtain ⟨j, hj, rfl, rfl, HH⟩ := hrel
    by_cases hlt : j < 4
    · obtain ⟨u, x, e1, e2, hx, hr⟩ := round_num (ofTo_lt k j) (kdH_fine HK.out j)
      have hs : ofTo k (j + 1) = x * 16777619 % 2147483648 := hr
      have HS := Lib.hid hs
      have hh := ofTo_lt k j
      generalize ofTo k j = h at *
      clear hr hs
      have hj4 : j = 0 ∨ j = 1 ∨ j = 2 ∨ j = 3 := by omega
      rcases hj4 with rfl | rfl | rfl | rfl
      all_goals simp only [kdH] at e1
      · go_wp2
        go_roundw
        case measure => simp [intOf]
        case rel => exact ⟨1, by omega, rfl, congrArg (Value.int .i64) (by rw [HS.out]; omega), HH.out⟩
      · go_wp2
        go_roundw
        case measure => simp [intOf]
        case rel => exact ⟨2, by omega, rfl, congrArg (Value.int .i64) (by rw [HS.out]; omega), HH.out⟩
      · go_wp2
        go_roundw
        case measure => simp [intOf]
        case rel => exact ⟨3, by omega, rfl, congrArg (Value.int .i64) (by rw [HS.out]; omega), HH.out⟩
      · go_wp2
        go_roundw
        case measure => simp [intOf]
        case rel => exact ⟨4, by omega, rfl, congrArg (Value.int .i64) (by rw [HS.out]; omega), HH.out⟩
    · obtain rfl : j = 4 := by omega
      have em : bits .xor .i64 (ofTo k 4 : Int) ((ofTo k 4 : Int) / 32768) = (mixH (ofTo k 4) : Int) := mix_num (ofTo_lt k 4)
      have hh := ofTo_lt k 4
      have hd : ((ofTo k 4 : Int) / 32768) < 65536 ∧ 0 ≤ ((ofTo k 4 : Int) / 32768) := by omega
      have HF : Hid (ofH k = mixH (ofTo k 4)) := rfl
      generalize ofTo k 4 = h at *
      go_wp2
      go_ret
      exact ⟨by rw [HF.out]; rfl, HH.out⟩
set_option maxHeartbeats 4000000 in
theorem ref13Of_any (k : Kd) (w : World) (hk : Fine4 k) :
    Calls Try.prog 125 #[kidsV k] w fun e w' => e = .returned (.int .i64 (ofH k : Int)) ∧ Below w.heap.size w w' := by
  have HK := Lib.hid hk
  clear hk
  have HB : Hid ((w.alloc (.cells #[.int .i64 k.1, .int .i64 k.2.1, .int .i64 k.2.2.1, .int .i64 k.2.2.2] 53)).heap[w.heap.size]? = some (.cells #[.int .i64 k.1, .int .i64 k.2.1, .int .i64 k.2.2.1, .int .i64 k.2.2.2] 53 (0, 0)) ∧ Below w.heap.size w (w.alloc (.cells #[.int .i64 k.1, .int .i64 k.2.1, .int .i64 k.2.2.1, .int .i64 k.2.2.2] 53))) := ⟨heap_alloc_new w _, (Below.refl _ _).alloc (Nat.le_refl _) _⟩
  unfold kidsV
  go_enter Try.func125, Try.ntmps125
  go_wp2
  go_loopw [3, 4] (fun h i wr => ∃ j : Nat, j ≤ 4 ∧ i = .int .i64 j ∧ h = .int .i64 (ofTo k j : Int) ∧ Hid (wr.heap[w.heap.size]? = some (.cells #[.int .i64 k.1, .int .i64 k.2.1, .int .i64 k.2.2.1, .int .i64 k.2.2.2] 53 (0, 0)) ∧ Below w.heap.size w wr)) (fun _ i _ => 4 - (intOf i).toNat)
  case atStart => exact ⟨0, by omega, rfl, rfl, HB.out⟩
  case round =>
    obtain ⟨j, hj, rfl, rfl, HH⟩ := hrel
    by_cases hlt : j < 4
    · obtain ⟨u, x, e1, e2, hx, hr⟩ := round_num (ofTo_lt k j) (kdH_fine HK.out j)
      have hs : ofTo k (j + 1) = x * 16777619 % 2147483648 := hr
      have HS := Lib.hid hs
      have hh := ofTo_lt k j
      generalize ofTo k j = h at *
      clear hr hs
      have c0 : wr.cell? ⟨w.heap.size, 0, none⟩ = some (.int .i64 k.1) := by rw [Lib.cell_of_heap HH.out.1]; rfl
      have c1 : wr.cell? ⟨w.heap.size, 1, none⟩ = some (.int .i64 k.2.1) := by rw [Lib.cell_of_heap HH.out.1]; rfl
      have c2 : wr.cell? ⟨w.heap.size, 2, none⟩ = some (.int .i64 k.2.2.1) := by rw [Lib.cell_of_heap HH.out.1]; rfl
      have c3 : wr.cell? ⟨w.heap.size, 3, none⟩ = some (.int .i64 k.2.2.2) := by rw [Lib.cell_of_heap HH.out.1]; rfl
      have hj4 : j = 0 ∨ j = 1 ∨ j = 2 ∨ j = 3 := by omega
      rcases hj4 with rfl | rfl | rfl | rfl
      all_goals simp only [kdH] at e1
      · go_wp2
        go_roundw
        case measure => simp [intOf]
        case rel => exact ⟨1, by omega, rfl, congrArg (Value.int .i64) (by rw [HS.out]; omega), HH.out⟩
      · go_wp2
        go_roundw
        case measure => simp [intOf]
        case rel => exact ⟨2, by omega, rfl, congrArg (Value.int .i64) (by rw [HS.out]; omega), HH.out⟩
      · go_wp2
        go_roundw
        case measure => simp [intOf]
        case rel => exact ⟨3, by omega, rfl, congrArg (Value.int .i64) (by rw [HS.out]; omega), HH.out⟩
      · go_wp2
        go_roundw
        case measure => simp [intOf]
        case rel => exact ⟨4, by omega, rfl, congrArg (Value.int .i64) (by rw [HS.out]; omega), HH.out⟩
    · obtain rfl : j = 4 := by omega
      have em : bits .xor .i64 (ofTo k 4 : Int) ((ofTo k 4 : Int) / 32768) = (mixH (ofTo k 4) : Int) := mix_num (ofTo_lt k 4)
      have hh := ofTo_lt k 4
      have hd : ((ofTo k 4 : Int) / 32768) < 65536 ∧ 0 ≤ ((ofTo k 4 : Int) / 32768) := by omega
      have HF : Hid (ofH k = mixH (ofTo k 4)) := rfl
      generalize ofTo k 4 = h at *
      go_wp2
      go_ret
      exact ⟨by rw [HF.out]; rfl, HH.out.2⟩
/-! ### slots -/
theorem ref13Slot_any (h i s : Int) (w : World) (hh : I64 h) (hi : I64 i) (hs : I64 s) :
    Calls Try.prog 124 #[.int .i64 h, .int .i64 i, .int .i64 s] w fun e w' => e = .returned (.int .i64 (slotH h i s)) ∧ w = w' := by
  obtain ⟨h1, h2⟩ := hh
  obtain ⟨h3, h4⟩ := hi
  obtain ⟨h5, h6⟩ := hs
  obtain ⟨r, hr⟩ : ∃ r, r = slotH h i s := ⟨_, rfl⟩
  rw [← hr]
  unfold slotH at hr
  by_cases c1 : s < 1
  · rw [if_pos (.inl c1)] at hr
    subst hr
    go_enter Try.func124, Try.ntmps124
    go_wp2
    all_goals go_ret
    all_goals exact ⟨rfl, rfl⟩
  by_cases c2 : h < 0
  · rw [if_pos (.inr (.inl c2))] at hr
    subst hr
    go_enter Try.func124, Try.ntmps124
    go_wp2
    all_goals go_ret
    all_goals exact ⟨rfl, rfl⟩
  by_cases c3 : 2147483648 ≤ h
  · rw [if_pos (.inr (.inr (.inl c3)))] at hr
    subst hr
    go_enter Try.func124, Try.ntmps124
    go_wp2
    all_goals go_ret
    all_goals exact ⟨rfl, rfl⟩
  by_cases c4 : i < 0
  · rw [if_pos (.inr (.inr (.inr (.inl c4))))] at hr
    subst hr
    go_enter Try.func124, Try.ntmps124
    go_wp2
    all_goals go_ret
    all_goals exact ⟨rfl, rfl⟩
  by_cases c5 : 2147483648 ≤ i
  · rw [if_pos (.inr (.inr (.inr (.inr c5))))] at hr
    subst hr
    go_enter Try.func124, Try.ntmps124
    go_wp2
    all_goals go_ret
    all_goals exact ⟨rfl, rfl⟩
  rw [if_neg (by omega)] at hr
  have HR := Lib.hid hr
  clear hr
  have hm : (h + i).tmod s = (h + i) % s := Int.tmod_eq_emod_of_nonneg (by omega)
  go_enter Try.func124, Try.ntmps124
  go_wp2
  all_goals go_ret
  all_goals (refine ⟨?_, rfl⟩; rw [HR.out, ← hm]; rfl)
theorem slot13_any (h i s : Int) (w : World) (hh : I64 h) (hi : I64 i) (hs : I64 s) :
    Calls Try.prog 126 #[.int .i64 h, .int .i64 i, .int .i64 s] w fun e w' => e = .returned (.int .i64 (slotH h i s)) ∧ w = w' := by
  obtain ⟨h1, h2⟩ := hh
  obtain ⟨h3, h4⟩ := hi
  obtain ⟨h5, h6⟩ := hs
  obtain ⟨r, hr⟩ : ∃ r, r = slotH h i s := ⟨_, rfl⟩
  rw [← hr]
  unfold slotH at hr
  by_cases c1 : s < 1
  · rw [if_pos (.inl c1)] at hr
    subst hr
    go_enter Try.func126, Try.ntmps126
    go_wp2
    all_goals go_ret
    all_goals first | exact ⟨rfl, rfl⟩ | omega
  by_cases c2 : h < 0
  · rw [if_pos (.inr (.inl c2))] at hr
    subst hr
    go_enter Try.func126, Try.ntmps126
    go_wp2
    all_goals go_ret
    all_goals first | exact ⟨rfl, rfl⟩ | omega
  by_cases c3 : 2147483648 ≤ h
  · rw [if_pos (.inr (.inr (.inl c3)))] at hr
    have d3 : decide (h < 2147483648) = false := decide_eq_false (by omega)
    subst hr
    go_enter Try.func126, Try.ntmps126
    go_wp2
    all_goals go_ret
    all_goals first | exact ⟨rfl, rfl⟩ | omega
  have d3 : decide (h < 2147483648) = true := decide_eq_true (by omega)
  by_cases c4 : i < 0
  · rw [if_pos (.inr (.inr (.inr (.inl c4))))] at hr
    subst hr
    go_enter Try.func126, Try.ntmps126
    go_wp2
    all_goals go_ret
    all_goals first | exact ⟨rfl, rfl⟩ | omega
  by_cases c5 : 2147483648 ≤ i
  · rw [if_pos (.inr (.inr (.inr (.inr c5))))] at hr
    have d5 : decide (i < 2147483648) = false := decide_eq_false (by omega)
    subst hr
    go_enter Try.func126, Try.ntmps126
    go_wp2
    all_goals go_ret
    all_goals first | exact ⟨rfl, rfl⟩ | omega
  have d5 : decide (i < 2147483648) = true := decide_eq_true (by omega)
  rw [if_neg (by omega)] at hr
  have HR := Lib.hid hr
  clear hr
  have hm : (h + i).tmod s = (h + i) % s := Int.tmod_eq_emod_of_nonneg (by omega)
  go_enter Try.func126, Try.ntmps126
  go_wp2
  all_goals go_ret
  all_goals (refine ⟨?_, rfl⟩; rw [HR.out]; first | rfl | (rw [← hm]; rfl))
end Go.Proofs.Ytocepdhjkhhpfaa
