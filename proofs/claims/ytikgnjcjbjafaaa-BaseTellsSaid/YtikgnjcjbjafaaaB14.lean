/-
  Texts that the claims of this seat share, part 14.
-/
import Derived.Test.YtikgnjcjbjafaaaB13
import Derived.Test.YtikgnjcjbjafaaaB06
import Derived.Test.YtikgnjcjbjafaaaB07
import Derived.Test.YtikgnjcjbjafaaaB08
import Derived.Deep.RegionWith
import Derived.Test.YtikgnjcjbjafaaaB12
import Derived.Test.YtikgnjcjbjafaaaRows
import Derived.ProofKit
import Derived.OpenShut
import Derived.ChangeOld
import Derived.Deep.Slices
import Derived.Deep.Fields
set_option linter.unusedVariables false
set_option linter.unusedSimpArgs false
namespace Go.Proofs.Ytikgnjcjbjafaaa
set_option maxRecDepth 100000
set_option linter.unusedVariables false
set_option linter.unusedSimpArgs false
open Go.RowKit Go.Sort

theorem storeR_box7 {l : List Nd} {room : Int} {w : World} {e : Ending} {w' : World} (h : StoreR l room w e w') : ∃ A c, e = .returned (.agg #[.slice A l.length c, .int .i64 room]) ∧ l.length ≤ c ∧ NowN w' A l ∧ Below w.heap.size w w' := by
  obtain ⟨v, rfl, ⟨A, c, rfl, hc, hN⟩, hb⟩ := h
  exact ⟨A, c, rfl, hc, hN, hb⟩
def BxB (w : World) (b : Nat) (x y u v : Int) : Prop := w.heap[b]? = some (.cells #[.int .i64 x, .int .i64 y, .int .i64 u, .int .i64 v] 47 (0, 0))
theorem BxB.below {w w' : World} {b : Nat} {x y u v : Int} (h : BxB w b x y u v) (hb : Below w.heap.size w w') : BxB w' b x y u v := (hb.block _ (lt_heap6 h)).trans h
theorem BxB.s0 {w : World} {b : Nat} {x y u v : Int} (h : BxB w b x y u v) : w.cell? ⟨b, 0, none⟩ = some (.int .i64 x) := by rw [Lib.cell_of_heap h]; rfl
theorem BxB.s1 {w : World} {b : Nat} {x y u v : Int} (h : BxB w b x y u v) : w.cell? ⟨b, 1, none⟩ = some (.int .i64 y) := by rw [Lib.cell_of_heap h]; rfl
theorem BxB.s2 {w : World} {b : Nat} {x y u v : Int} (h : BxB w b x y u v) : w.cell? ⟨b, 2, none⟩ = some (.int .i64 u) := by rw [Lib.cell_of_heap h]; rfl
theorem BxB.s3 {w : World} {b : Nat} {x y u v : Int} (h : BxB w b x y u v) : w.cell? ⟨b, 3, none⟩ = some (.int .i64 v) := by rw [Lib.cell_of_heap h]; rfl
end Go.Proofs.Ytikgnjcjbjafaaa
namespace Go.Proofs.Ytikgnjcjbjafaaa
set_option maxRecDepth 100000
set_option linter.unusedVariables false
set_option linter.unusedSimpArgs false
open Go.RowKit Go.Sort

theorem storeR_box {l : List Nd} {room : Int} {w : World} {e : Ending} {w' : World} (h : StoreR l room w e w') : ∃ A c, e = .returned (.agg #[.slice A l.length c, .int .i64 room]) ∧ l.length ≤ c ∧ NowN w' A l ∧ Below w.heap.size w w' := by
  obtain ⟨v, rfl, ⟨A, c, rfl, hc, hN⟩, hb⟩ := h
  exact ⟨A, c, rfl, hc, hN, hb⟩
theorem RdR.more {w : World} {B B' : Nat} {A : Option Addr} {l : List Raw5} (h : RdR w B A l) (hB : B ≤ B') : RdR w B' A l := fun j hj => by
  obtain ⟨b, off, e, hlt, h0⟩ := h j hj
  exact ⟨b, off, e, Nat.lt_of_lt_of_le hlt hB, h0⟩
theorem stB_put {w : World} {b : Nat} {A : Option Addr} {l : List Nd} {c : Nat} {room r : Int} {v : Value} (h : w.heap[b]? = some (.cells #[v, .int .i64 r] 27 (0, 0))) (hN : NowN w A l) (hc : l.length ≤ c) :
    StB ((w.setCell ⟨b, 0, none⟩ (.slice A l.length c)).setCell ⟨b, 1, none⟩ (.int .i64 room)) b A l c room :=
  ⟨by simp [World.setCell, Array.getElem?_modify, h], (rdN_told hN h).more (by simp [World.setCell]), hc⟩
end Go.Proofs.Ytikgnjcjbjafaaa
namespace Go.Proofs.Ytikgnjcjbjafaaa.Cel
open Go.RowKit Go.Sort

def rawCell (p : Int × Int) : Int × Int := (pickI p.1 16 - 8, pickI p.2 16 - 8)
/-- the cells that the first k raw numbers tell -/
def rawTo (raw : List (Int × Int)) (k : Nat) : List (Int × Int) := (raw.take k).map rawCell
/-- the set that the laws make of raw numbers -/
def rawSet (raw : List (Int × Int)) : List (Int × Int) := setL (rawTo raw 60)
theorem rawTo_succ {raw : List (Int × Int)} {k : Nat} (hk : k < raw.length) : rawTo raw (k + 1) = rawTo raw k ++ [rawCell (raw.getD k (0, 0))] := by
  unfold rawTo; rw [take_snoc hk, List.map_append]; rfl
theorem length_rawTo (raw : List (Int × Int)) (k : Nat) : (rawTo raw k).length ≤ k := by
  unfold rawTo; rw [List.length_map, List.length_take]; omega
theorem rawCell_bd (p : Int × Int) : -8 ≤ (rawCell p).1 ∧ (rawCell p).1 ≤ 7 ∧ -8 ≤ (rawCell p).2 ∧ (rawCell p).2 ≤ 7 := by
  have h1 := pickI_bd p.1 16 (by omega)
  have h2 := pickI_bd p.2 16 (by omega)
  unfold rawCell
  simp only
  omega
theorem rawTo_bd {raw : List (Int × Int)} {k : Nat} {p : Int × Int} (h : p ∈ rawTo raw k) : -8 ≤ p.1 ∧ p.1 ≤ 7 ∧ -8 ≤ p.2 ∧ p.2 ≤ 7 := by
  unfold rawTo at h
  obtain ⟨q, _, rfl⟩ := List.mem_map.1 h
  exact rawCell_bd q

/-- A slice that reads as a list, whatever its place and capacity. -/
def Reads (w : World) (v : Value) (l : List (Int × Int)) : Prop := ∃ A c, v = .slice A l.length c ∧ l.length ≤ c ∧ Rd w w.heap.size A l
theorem Reads.below {w w' : World} {v : Value} {l : List (Int × Int)} (h : Reads w v l) (hb : Below w.heap.size w w') : Reads w' v l := by
  obtain ⟨A, c, e, hc, hr⟩ := h
  exact ⟨A, c, e, hc, (hr.below hb (Nat.le_refl _)).more hb.size⟩

def I64 (x : Int) : Prop := -9223372036854775808 ≤ x ∧ x ≤ 9223372036854775807

set_option maxHeartbeats 1000000 in
theorem set_own (A : Option Addr) (raw : List (Int × Int)) (c : Nat) (w : World) (hR : Rd w w.heap.size A raw) (hl : raw.length ≤ 9223372036854775807) (hc : raw.length ≤ c) (hw : ∀ p ∈ raw, I64 p.1 ∧ I64 p.2) :
    Calls Try.prog 26 #[.slice A raw.length c] w fun e w' => ∃ v, e = .returned v ∧ Own w' 0 32 v (rawSet raw) ∧ Below w.heap.size w w' := by
  have HW := Lib.hid hw
  clear hw
  go_enter Try.func26, Try.ntmps26
  go_wp2
  go_loopw [3, 4] (fun v i wr => ∃ k : Nat, k ≤ raw.length ∧ k ≤ 60 ∧ i = .int .i64 k ∧ Aside (Own wr 0 32 v (setL (rawTo raw k))) ∧ Below w.heap.size w wr) (fun _ i _ => 60 - (intOf i).toNat)
  case atStart => exact ⟨0, Nat.zero_le _, by omega, rfl, World.ownsRow_nil _ _ _ _, Below.refl _ _⟩
  case round =>
    obtain ⟨k, hk, hk60, rfl, HO, hb⟩ := hrel
    by_cases hlt : k < raw.length ∧ k < 60
    · obtain ⟨hlt, h60⟩ := hlt
      have hltz : (k : Int) < (raw.length : Int) := by omega
      have h60z : (k : Int) < 60 := by omega
      obtain ⟨b, off, rfl, hbB, hcell⟩ := hR.at_ (by omega)
      obtain ⟨⟨x, y⟩, hxy⟩ : ∃ p, p = raw.getD k (0, 0) := ⟨_, rfl⟩
      obtain ⟨c0, c1⟩ := hcell k hlt
      rw [← hxy] at c0 c1
      simp only at c0 c1
      have c0 := Qt.keep hb c0
      have c1 := Qt.keep hb c1
      have hwf := HW.out _ (getD_mem hlt)
      rw [← hxy] at hwf
      have HWF := Lib.hid hwf
      have hbd := rawCell_bd (x, y)
      unfold rawCell at hbd
      simp only at hbd
      obtain ⟨n1, n2, n3, n4⟩ := hbd
      have HXY := Lib.hid hxy
      obtain ⟨A', c', hv, hc', hr'⟩ := HO.out.rd
      have hsl := length_setL (rawTo raw k)
      have hrl := length_rawTo raw k
      have k0 := Qt.cell_in c0
      have k1 := Qt.cell_in c1
      have HR' := Lib.hid hr'
      subst hv
      clear hxy hcell hwf hr'
      go_wp2
      refine Qt.below_tail 16 (by kernel_rfl) (by kernel_rfl) ?_
      simp only [List.take_succ_cons, List.take_zero, List.drop_succ_cons, List.drop_zero]
      repeat (go_big_quiet_step (first | (go_at_call_of 62 x; exact Qt.at_same fun _ _ => pick_any x 16 _ HWF.out.1.1 HWF.out.1.2 (by omega) (by omega)) | (go_at_call_of 62 y; exact Qt.at_same fun _ _ => pick_any y 16 _ HWF.out.2.1 HWF.out.2.2 (by omega) (by omega))))
      refine wpQuiet_nil ?_
      intro w1 hb1
      have HR1 := (HR'.out.below hb1 (Nat.le_refl _)).more hb1.size
      have hp := put_any A' (setL (rawTo raw k)) c' (pickI x 16 - 8, pickI y 16 - 8) w1 HR1 (by omega) hc'
      have hset : putL (pickI x 16 - 8, pickI y 16 - 8) (setL (rawTo raw k)) = setL (rawTo raw (k + 1)) := by
        rw [rawTo_succ hlt, setL_snoc, ← HXY.out]
        rfl
      rw [hset] at hp
      clear hset HR1
      go_wp2_with (go_at_call 39; refine hp.mono ?_; rintro e w2 ⟨v2, rfl, hown2, hb2⟩)
      go_roundw
      case measure => simp [intOf]; omega
      case rel =>
        refine ⟨k + 1, by omega, by omega, by go_num, ?_, Qt.more (Qt.more hb hb.size hb1) (Nat.le_trans hb.size hb1.size) hb2⟩
        exact hown2.mono (Nat.zero_le _)
    · have hset : rawTo raw k = rawTo raw 60 := by
        unfold rawTo
        by_cases h : k < raw.length
        · rw [show k = 60 by omega]
        · rw [List.take_of_length_le (by omega), List.take_of_length_le (by omega)]
      have HSET := Lib.hid hset
      clear hset
      by_cases h1 : k < raw.length
      · have h1z : (k : Int) < (raw.length : Int) := by omega
        have h2z : ¬ (k : Int) < 60 := by omega
        go_wp2
        go_ret
        have := HO.out
        rw [HSET.out] at this
        exact ⟨_, rfl, this, hb⟩
      · have h1z : ¬ (k : Int) < (raw.length : Int) := by omega
        go_wp2
        go_ret
        have := HO.out
        rw [HSET.out] at this
        exact ⟨_, rfl, this, hb⟩

theorem set_any (A : Option Addr) (raw : List (Int × Int)) (c : Nat) (w : World) (hR : Rd w w.heap.size A raw) (hl : raw.length ≤ 9223372036854775807) (hc : raw.length ≤ c) (hw : ∀ p ∈ raw, I64 p.1 ∧ I64 p.2) :
    Calls Try.prog 26 #[.slice A raw.length c] w fun e w' => ∃ v, e = .returned v ∧ Reads w' v (rawSet raw) ∧ Below w.heap.size w w' :=
  (set_own A raw c w hR hl hc hw).mono fun e w' ⟨v, he, ho, hb⟩ => by
    obtain ⟨A2, c2, h1, h2, h3⟩ := ho.rd
    exact ⟨v, he, ⟨A2, c2, h1, h2, h3⟩, hb⟩

end Go.Proofs.Ytikgnjcjbjafaaa.Cel
namespace Go.Proofs.Ytikgnjcjbjafaaa
set_option maxRecDepth 100000
set_option linter.unusedVariables false
set_option linter.unusedSimpArgs false
open Go.RowKit Go.Sort

theorem pick7_any (c n : Int) (w : World) (h1 : -9223372036854775808 ≤ c) (h2 : c ≤ 9223372036854775807) (hn : 1 ≤ n) (hn2 : n ≤ 9223372036854775807) :
    Calls Try.prog 15 #[.int .i64 c, .int .i64 n] w fun e w' => e = .returned (.int .i64 (pickI c n)) ∧ w = w' := by
  generalize hr : pickI c n = r
  have HR := Lib.hid hr
  clear hr
  go_enter Try.func15, Try.ntmps15
  go_wp2
  all_goals go_ret
  all_goals refine ⟨?_, rfl⟩
  all_goals (refine Qt.ret_int ?_; rw [← HR.out]; unfold pickI)
  · rw [if_pos (by assumption), ← Int.neg_tmod, Int.tmod_eq_emod_of_nonneg (by omega)]
  · rw [if_neg (by omega)]
theorem lev_bd {l : List Nd} {room : Int} (h : Right6 l room) : ∀ i, i < l.length → -9223372036854775808 ≤ (l.getD i deadN).1 ∧ (l.getD i deadN).1 ≤ 9223372036854775807 := fun i hi => by
  by_cases h2 : 2 ≤ i
  · have hf := fits_iff.1 (h.fits i h2 hi)
    have h3 := hf.lo
    have h4 := hf.hi
    omega
  · have := (level_zero h hi).2 (by omega)
    omega
theorem raw_set (raw : List (Int × Int)) : Cel.rightB (Cel.rawSet raw) = true ∧ (Cel.rawSet raw).length ≤ 60 ∧ ∀ e, 3 ≤ e → ∀ s ∈ Cel.rawSet raw, insideB e s = true := by
  have hm : ∀ s ∈ Cel.rawSet raw, -8 ≤ s.1 ∧ s.1 ≤ 7 ∧ -8 ≤ s.2 ∧ s.2 ≤ 7 := fun s hs => Cel.rawTo_bd ((Cel.mem_setL _ _).1 hs)
  have hl : (Cel.rawSet raw).length ≤ 60 := Nat.le_trans (Cel.length_setL _) (Cel.length_rawTo raw 60)
  refine ⟨(Cel.rightB_iff _).2 ⟨by omega, fun s hs => ?_, Cel.rises_setL _⟩, hl, fun e he s hs => ?_⟩
  · have := hm s hs
    unfold Cel.inB
    exact decide_eq_true (by omega)
  · have := hm s hs
    have hp : (8 : Int) ≤ 2 ^ e := by
      obtain ⟨d, rfl⟩ : ∃ d, e = 3 + d := ⟨e - 3, by omega⟩
      rw [Int.pow_add]
      have := pow_pos7 d
      generalize (2 : Int) ^ d = P at *
      show 8 ≤ 8 * P
      omega
    unfold insideB
    exact decide_eq_true (by omega)
end Go.Proofs.Ytikgnjcjbjafaaa
namespace Go.Proofs.Ytikgnjcjbjafaaa.Cel
open Go.ChangeShapes Go.WideShapes Go.ChangeAt Go.RowKit Go.Deep

theorem exists_list {n : Nat} {Q : Nat → Int × Int → Prop} (h : ∀ i, i < n → ∃ p, Q i p) : ∃ l : List (Int × Int), l.length = n ∧ ∀ i, i < n → Q i (l.getD i (0, 0)) := by
  induction n with
  | zero => exact ⟨[], rfl, fun i hi => absurd hi (Nat.not_lt_zero i)⟩
  | succ n ih =>
    obtain ⟨l, hl, hq⟩ := ih fun i hi => h i (by omega)
    obtain ⟨p, hp⟩ := h n (by omega)
    refine ⟨l ++ [p], by simp [hl], fun i hi => ?_⟩
    by_cases hin : i < n
    · rw [List.getD_eq_getElem?_getD, List.getElem?_append_left (by omega), ← List.getD_eq_getElem?_getD]
      exact hq i hin
    · have : i = n := by omega
      subst this
      rw [List.getD_eq_getElem?_getD, List.getElem?_append_right (by omega), hl]
      simpa using hp

section
variable {H : Type} {enc : TypeId × Value → H} {w : World} {base : Nat} {spare : Nat → Bool} {held : Bool}

/-- An element of two cells, each a number. -/
def TwoInts (P : Program) (e : TypeId) : Prop := P.cellsOf e = 2 ∧ ∀ {H : Type} {enc : TypeId × Value → H} {w : World} {base : Nat} {spare : Nat → Bool} {held : Bool} (n : Nat) (cs : List Value) (y : DataW H × List MemPlace), DataW.trod enc P w base spare held n e cs = some y → ∃ a b, cs = [.int .i64 a, .int .i64 b] ∧ I64 a ∧ I64 b

theorem i64_of_wf {a : Int} (h : (Lit.int .i64 a).wf = true) : I64 a := by
  have : IntKind.i64.min ≤ a ∧ a ≤ IntKind.i64.max := by simpa [Lit.wf] using h
  simpa [I64, IntKind.min, IntKind.max, IntKind.signed, IntKind.bits] using this

theorem two_array {P : Program} {e t : TypeId} (he : P.underlying e = some (.array 2 t)) (ht : P.underlying t = some (.int .i64)) (h2 : P.cellsOf e = 2) (h1 : P.cellsOf t = 1) : TwoInts P e := by
  refine ⟨h2, fun n cs y h => ?_⟩
  obtain ⟨xs, m, _, _, hlen, hxl, hx⟩ := DataW.trod_array he h
  rw [h2] at hlen
  obtain ⟨a, b, rfl⟩ : ∃ a b, cs = [a, b] := by
    match cs, hlen with
    | [a, b], _ => exact ⟨a, b, rfl⟩
  have x0 := hx 0 (by omega)
  have x1 := hx 1 (by omega)
  rw [h1] at x0 x1
  rw [List.getElem?_eq_getElem (by omega)] at x0 x1
  obtain ⟨u, hu, _, wu⟩ := DataW.trod_int ht x0
  obtain ⟨v, hv, _, wv⟩ := DataW.trod_int ht x1
  simp at hu hv
  exact ⟨u, v, by rw [hu, hv], i64_of_wf wu, i64_of_wf wv⟩

/-- A slice of such pairs that came in. -/
theorem open_pairs {P : Program} {t e : TypeId} {fuel : Nat} {a0 : Option Addr} {len0 cap0 : Nat} {x : DataW H × List MemPlace} (ht : P.underlying t = some (.slice e)) (he : TwoInts P e) (h : DataW.trod enc P w base spare held fuel t [.slice a0 len0 cap0] = some x) :
    ∃ l : List (Int × Int), l.length = len0 ∧ len0 ≤ cap0 ∧ cap0 ≤ maxLen ∧ Rd w w.heap.size a0 l ∧ ∀ p ∈ l, I64 p.1 ∧ I64 p.2 := by
  rcases open_slice ht h with ⟨hcs, _⟩ | ⟨a, len, cap, m, n, D, Pl, hcs, hb, hl, hm, hmm, _, hi⟩
  · simp at hcs
    obtain ⟨rfl, rfl, rfl⟩ := hcs
    exact ⟨[], rfl, Nat.le_refl _, by simp [maxLen], Rd.nil _ _ _, fun p hp => by cases hp⟩
  · simp at hcs
    obtain ⟨rfl, rfl, rfl⟩ := hcs
    have hlm : len0 ≤ m := by rw [hmm]; split <;> omega
    have hq : ∀ i, i < len0 → ∃ p : Int × Int, (w.cell? (a.add (i * 2)) = some (.int .i64 p.1) ∧ w.cell? ((a.add (i * 2)).add 1) = some (.int .i64 p.2)) ∧ I64 p.1 ∧ I64 p.2 := by
      intro i hi'
      obtain ⟨cs', hc, ht'⟩ := hi i (by omega)
      rw [he.1] at hc
      obtain ⟨u, v, rfl, wu, wv⟩ := he.2 _ _ _ ht'
      obtain ⟨_, _, hat⟩ := World.cells?_some hc
      have h0 := hat 0 (by omega)
      have h1 := hat 1 (by omega)
      refine ⟨(u, v), ⟨?_, ?_⟩, wu, wv⟩
      · simpa [Addr.add] using h0
      · simpa using h1
    obtain ⟨l, hll, hlq⟩ := exists_list hq
    refine ⟨l, hll, hl, hm, fun j hj => ?_, fun p hp => ?_⟩
    · obtain ⟨⟨c0, c1⟩, _⟩ := hlq j (by omega)
      obtain ⟨b, off, spot⟩ := a
      have hspot : spot = none := by
        have := (hlq 0 (by omega)).1.1
        simpa [Addr.add] using World.cell?_spot this
      subst hspot
      rw [Addr.add_lit] at c0 c1
      rw [Addr.add_lit] at c1
      exact ⟨b, off, rfl, block_lt_of_cell c0, c0, c1⟩
    · obtain ⟨j, hj, rfl⟩ := List.getElem_of_mem hp
      have := (hlq j (by omega)).2
      rwa [List.getD_eq_getElem?_getD, List.getElem?_eq_getElem hj] at this
end

theorem twoArr : TwoInts Try.prog 70 := two_array Try.underlying70 Try.underlying3 (by kernel_rfl) (by kernel_rfl)
theorem own : ownKnob Try.prog.godebug = none := by kernel_rfl
theorem laidOut : laidOutB Try.prog = true := by kernel_rfl

end Go.Proofs.Ytikgnjcjbjafaaa.Cel
namespace Go.Proofs.Ytikgnjcjbjafaaa
set_option maxRecDepth 100000
set_option linter.unusedVariables false
open Go.ChangeShapes Go.WideShapes Go.ChangeAt Go.RowKit Go.Deep
theorem num_in {H : Type} {enc : TypeId × Value → H} {w : World} {base : Nat} {spare : Nat → Bool} {held : Bool} {P : Program} {t : TypeId} {fuel : Nat} {cs : List Value} {x : DataW H × List MemPlace} (he : P.underlying t = some (.int .i64))
    (h : DataW.trod enc P w base spare held fuel t cs = some x) : ∃ a : Int, cs = [.int .i64 a] ∧ I64 a := by
  obtain ⟨a, hu, _, wu⟩ := DataW.trod_int he h
  exact ⟨a, hu, i64_wf6 wu⟩
theorem store_val {H : Type} {enc : TypeId × Value → H} {W : World} {base b0 : Nat} {spare : Nat → Bool} {held : Bool} {r : Reach} {v : Value} {d : DataW H} {ps : List MemPlace}
    (hv : Value.okWide Try.prog W r b0 27 v) (h : DataW.Trod enc Try.prog W base spare held 27 v d ps) :
    ∃ (a : Option Addr) (l : List Nd) (c : Nat) (room : Int), v = storeV a l.length c room ∧ l.length ≤ c ∧ c ≤ maxLen ∧ RdN W W.heap.size a l ∧ (∀ j, j < l.length → FineN (l.getD j deadN)) ∧ I64 room := by
  obtain ⟨xs, rfl, hsz⟩ := okWide_struct Try.underlying27 hv
  obtain ⟨fuel, hf⟩ := h
  obtain ⟨y0, y1, n, _, hl, k0, k1⟩ := trod_struct2 Try.underlying27 hf
  have hsz2 : xs.size = 2 := hsz.trans (by kernel_rfl)
  obtain ⟨x0, x1, rfl⟩ : ∃ x0 x1, xs = #[x0, x1] := by
    obtain ⟨l⟩ := xs
    match l, hsz2 with
    | [a, b], _ => exact ⟨a, b, rfl⟩
  have k0' : DataW.trod enc Try.prog W base spare held n 25 [x0] = some y0 := k0
  have k1' : DataW.trod enc Try.prog W base spare held n 3 [x1] = some y1 := k1
  obtain ⟨room, hroom, hI⟩ := num_in Try.underlying3 k1'
  have hx1 : x1 = .int .i64 room := by simpa using hroom
  subst hx1
  have hsl : ∃ a len cap, x0 = .slice a len cap := by
    rcases open_slice Try.underlying25 k0' with ⟨hcs, _⟩ | ⟨a, len, cap, m, k, D, Pl, hcs, _⟩
    · exact ⟨none, 0, 0, by simpa using hcs⟩
    · exact ⟨_, _, _, by simpa using hcs⟩
  obtain ⟨a, len, cap, rfl⟩ := hsl
  obtain ⟨l, rfl, h2, h3, h4, h5⟩ := nodes_in k0'
  exact ⟨a, l, cap, room, rfl, h2, h3, h4, h5, hI⟩
end Go.Proofs.Ytikgnjcjbjafaaa
