/-
  Texts that the claims of this seat share, part 0.
-/
import Derived.Lib.QuietBelow
import Derived.StillTail
import Derived.BigQuiet
import Derived.KernelRfl
import Derived.Test.YthfbcjbiemdedaaRows
import Derived.Test.YthfbcjbiemdedaaSh
import Derived.Lib.ItoaMem
import GoSem.Op.String
import Derived.WalkKit
import Derived.WalkSpells
import Derived.WalkLawsBesides
import Derived.WalkArith
import Derived.IntWalk
import Derived.Lib.Hide
import Derived.Lib.AppendIntMem
import Derived.StillTailTactics
import Derived.LoopN
import Derived.Handy
import Derived.Deep.LoopGhost
import Derived.Lib.AppendZerosOnto
set_option linter.unusedVariables false
set_option linter.unusedSimpArgs false
namespace Go.Proofs.Ythfbcjbiemdedaa.Qt
set_option linter.unusedVariables false
set_option linter.unusedSimpArgs false
open Go Go.Sort Go.RowKit

section
variable {P : Program} {ops : Array Oper} {md : Region.Mode} {C : World → Prop}

/-- f rounds of the head, whatever order, then L. -/
def headAny (P : Program) (md : Region.Mode) (ops : Array Oper) (C : World → Prop) (n : Nat) (L : Array Bool → Act → Prop) : Nat → Array Bool → Act → Prop
  | 0, listed, a => L listed a
  | f + 1, listed, a => Region.ready md ops listed ≠ [] ∧ ∀ i ∈ Region.ready md ops listed, i < n ∧ qOp P ops C i (headAny P md ops C n L f (listed.setIfInBounds i true)) a

theorem any_of_head {n g : Nat} {L : Array Bool → Act → Prop} {Q : Exit → Act → World → Prop} (hL : ∀ listed a w, C w → L listed a → wpAny P md ops Q g listed a w) (f : Nat) :
    ∀ listed a w, C w → headAny P md ops C n L f listed a → wpAny P md ops Q (f + g) listed a w := by
  induction f with
  | zero => intro listed a w hw h; rw [Nat.zero_add]; exact hL _ _ _ hw h
  | succ f ih =>
    intro listed a w hw h
    rw [Nat.succ_add]
    exact ⟨fun h0 => absurd h0 h.1, fun i hi => wpOp_of_qOp hw (fun a' w' hw' h' => ih _ a' w' hw' h') (h.2 i hi).2⟩

theorem quiet_mono {Q Q' : Act → Prop} (hq : ∀ a, Q a → Q' a) (l : List Oper) : ∀ a, wpQuiet P ops C Q l a → wpQuiet P ops C Q' l a := by
  induction l with
  | nil => exact hq
  | cons o l ih =>
    intro a h
    unfold wpQuiet at h ⊢
    split
    · rename_i hw; rw [if_pos hw] at h; exact Oper.quiet_mono ih h
    · rename_i hw; rw [if_neg hw] at h; exact ih _ h

/-- The whole region quiet. -/
theorem below_all {id : Nat} {Q : Exit → Act → World → Prop} {a : Act} {w : World} {l : List Oper} (hm : P.follows .mixedOrders = true) (hB : Region.lexB .any l.toArray = true)
    (h : wpQuiet P l.toArray (fun w' => ∃ p : Regrown, w' = grow (redrawn w p.d) p.os) (fun a' => ∀ w', Below w.heap.size w w' → Q .normal a' w') l a) : (Code.region id l.toArray true).wp P Q a w :=
  wp_region_quiet_below hm hB (quiet_mono (fun a' h w' ⟨p, hp⟩ => h w' (hp ▸ below_regrown w p.d p.os)) _ _ h)

/-- .. one that asks for the world ahead. -/
theorem at_call' {f : FuncId} {args : Array Value} {w : World} {d : Nat} {os : Array Obj} {v : Value} (h : ∀ W, Below w.heap.size w W → Calls P f args W fun e w' => e = .returned v ∧ Below W.heap.size W w') :
    Calls P f args (grow (redrawn w d) os) fun e w'' => e = .returned v ∧ ∃ p : Regrown, w'' = grow (redrawn w p.d) p.os := Calls.regrown_of (h _ (below_regrown w d os))

/-- .. one that leaves the world alone. -/
theorem at_same {f : FuncId} {args : Array Value} {w : World} {d : Nat} {os : Array Obj} {v : Value} (h : ∀ W, Below w.heap.size w W → Calls P f args W fun e w' => e = .returned v ∧ W = w') :
    Calls P f args (grow (redrawn w d) os) fun e w'' => e = .returned v ∧ ∃ p : Regrown, w'' = grow (redrawn w p.d) p.os :=
  Calls.regrown_of ((h _ (below_regrown w d os)).mono fun _ _ ⟨he, hw⟩ => ⟨he, hw ▸ Below.refl _ _⟩)

/-- A cell that is there, in every world of the class. -/
theorem cell_in {w : World} {a : Addr} {v : Value} (h : w.cell? a = some v) : ∀ d os, (grow (redrawn w d) os).cell? a = some v := cell_regrown h
/-- a cell that is there stays, and Below adds up -/
theorem keep {w w' : World} {a : Addr} {v : Value} (hb : Below w.heap.size w w') (h : w.cell? a = some v) : w'.cell? a = some v := (hb.cell (block_lt_of_cell h)).trans h
theorem more {B : Nat} {w0 w w' : World} (h : Below B w0 w) (hB : B ≤ w.heap.size) (hb : Below w.heap.size w w') : Below B w0 w' := h.trans (hb.mono hB)

theorem ret_int {k : IntKind} {x y : Int} (h : x = y) : Ending.returned (.int k x) = .returned (.int k y) := by rw [h]
end
end Go.Proofs.Ythfbcjbiemdedaa.Qt
namespace Go.Proofs.Ythfbcjbiemdedaa
open Go.RowKit Go.Sort

def I64 (n : Int) : Prop := -9223372036854775808 ≤ n ∧ n ≤ 9223372036854775807

/-- The table of powers of ten, that the library's Itoa looks into. -/
def tabName : String := Rows.memTellsRow.named.getD 0 default
def Tab (w : World) : Prop := Lib.TabIs Try.prog w tabName .u64 Lib.pow10Tab
theorem Tab.below {w w' : World} (h : Tab w) (hb : Below w.heap.size w w') : Tab w' := Lib.tabBelow_of_tabIs h w' hb

def pickI (c n : Int) : Int := if c < 0 then (-(c + 1)) % n else c % n
theorem pickI_bd (c n : Int) (hn : 1 ≤ n) : 0 ≤ pickI c n ∧ pickI c n < n := by
  unfold pickI
  split
  · exact ⟨Int.emod_nonneg _ (by omega), Int.emod_lt_of_pos _ (by omega)⟩
  · exact ⟨Int.emod_nonneg _ (by omega), Int.emod_lt_of_pos _ (by omega)⟩

/-! ### slices of numbers -/

/-- The slice at A of l.length numbers reads as l, below block B. -/
def Rd (w : World) (B : Nat) (A : Option Addr) (l : List Int) : Prop :=
  ∀ j, j < l.length → ∃ b off, A = some ⟨b, off, none⟩ ∧ b < B ∧ w.cell? ⟨b, off + j, none⟩ = some (.int .i64 (l.getD j 0))

theorem Rd.below {w w' : World} {B B' : Nat} {A : Option Addr} {l : List Int} (h : Rd w B A l) (hb : Below B' w w') (hB : B ≤ B') : Rd w' B A l := fun j hj => by
  obtain ⟨b, off, e, hlt, h0⟩ := h j hj
  exact ⟨b, off, e, hlt, (hb.cell (p := ⟨b, off + j, none⟩) (Nat.lt_of_lt_of_le hlt hB)).trans h0⟩
theorem Rd.more {w : World} {B B' : Nat} {A : Option Addr} {l : List Int} (h : Rd w B A l) (hB : B ≤ B') : Rd w B' A l := fun j hj => by
  obtain ⟨b, off, e, hlt, h0⟩ := h j hj
  exact ⟨b, off, e, by omega, h0⟩
theorem Rd.nil (w : World) (B : Nat) (A : Option Addr) : Rd w B A [] := fun j hj => absurd hj (Nat.not_lt_zero j)
theorem Rd.at_ {w : World} {B : Nat} {A : Option Addr} {l : List Int} (h : Rd w B A l) (hn : 0 < l.length) :
    ∃ b off, A = some ⟨b, off, none⟩ ∧ b < B ∧ ∀ j, j < l.length → w.cell? ⟨b, off + j, none⟩ = some (.int .i64 (l.getD j 0)) := by
  obtain ⟨b, off, e, hlt, _⟩ := h 0 hn
  refine ⟨b, off, e, hlt, fun j hj => ?_⟩
  obtain ⟨b', off', e', _, h0⟩ := h j hj
  rw [e] at e'
  injection e' with e'
  injection e' with e1 e2
  subst e1 e2
  exact h0
/-- A slice whose cells read as a list, now. -/
def Now (w : World) (A : Option Addr) (l : List Int) : Prop := Rd w w.heap.size A l
theorem Now.below {w w' : World} {A : Option Addr} {l : List Int} (h : Now w A l) (hb : Below w.heap.size w w') : Now w' A l := (Rd.below h hb (Nat.le_refl _)).more hb.size
theorem now_nil (w : World) (A : Option Addr) : Now w A [] := Rd.nil _ _ _

/-- A slice that the call itself has made. -/
abbrev Own (w : World) (B : Nat) (v : Value) (l : List Int) : Prop := w.ownsRow B 3 1 v l.length (l.map (Value.int .i64))
/-- It reads as its list. -/
def Reads (w : World) (v : Value) (l : List Int) : Prop := ∃ A c, v = .slice A l.length c ∧ l.length ≤ c ∧ Now w A l
theorem Own.reads {w : World} {B : Nat} {v : Value} {l : List Int} (h : Own w B v l) : Reads w v l := by
  rcases h.2 with ⟨rfl, h0⟩ | ⟨g, cap, cur, rfl, hb, hh, hn, hcap, hsz, htake⟩
  · have : l = [] := by simpa using h0
    subst this
    exact ⟨none, 0, rfl, Nat.le_refl _, now_nil _ _⟩
  · refine ⟨some ⟨g, 0, none⟩, cap, rfl, hn, fun j hj => ⟨g, 0, rfl, (World.ownsRow.lt h g rfl).2, ?_⟩⟩
    have := World.ownsRow.cellAt h j (by simpa using hj)
    rw [Nat.zero_add]
    rw [this]
    simp [List.getD_eq_getElem?_getD, List.getElem?_eq_getElem hj]
theorem Reads.below {w w' : World} {v : Value} {l : List Int} (h : Reads w v l) (hb : Below w.heap.size w w') : Reads w' v l := by
  obtain ⟨A, c, e, hc, hR⟩ := h
  exact ⟨A, c, e, hc, hR.below hb⟩

end Go.Proofs.Ythfbcjbiemdedaa
namespace Go.Proofs.Ythfbcjbiemdedaa
set_option linter.unusedVariables false
set_option linter.unusedSimpArgs false

/-- an access: its kind, its place, what is to be there, what is to be written -/
abbrev Ac := Int × Int × Int × Int
def deadA : Ac := (0, 0, 0, 0)
/-- what an access answers: the words, what was there, whether it was done, the error -/
abbrev DoT := List Int × Int × Bool × Int
def mayW (n : Int) : Bool := decide (-1152921504606846975 ≤ n) && decide (n ≤ 1152921504606846975)
def knownA (k : Int) : Bool := decide (1 ≤ k) && decide (k ≤ 4)
/-- what is to be written -/
def toA (y : Ac) (x : Int) : Int := if y.1 = 4 then x + y.2.2.2 else y.2.2.2
def doA (m : List Int) (y : Ac) : DoT :=
  if knownA y.1 = false ∨ 100000 < m.length then (m, 0, false, 1)
  else if y.2.1 < 0 ∨ (m.length : Int) ≤ y.2.1 then (m, 0, false, 2)
  else if y.1 = 1 then (m, m.getD y.2.1.toNat 0, true, 0)
  else if mayW (toA y (m.getD y.2.1.toNat 0)) = false then (m, 0, false, 2)
  else if y.1 = 3 ∧ m.getD y.2.1.toNat 0 ≠ y.2.2.1 then (m, m.getD y.2.1.toNat 0, false, 0)
  else (m.set y.2.1.toNat (toA y (m.getD y.2.1.toNat 0)), m.getD y.2.1.toNat 0, true, 0)
/-- all accesses, one behind the other; the first error ends it -/
def playA (m0 : List Int) : List Ac → List Int → List Int → List Int × List Int × Int
  | [], m, f => (m, f, 0)
  | y :: r, m, f => if (doA m y).2.2.2 = 0 then playA m0 r (doA m y).1 (f ++ [(doA m y).2.1]) else (m0, [], (doA m y).2.2.2)

theorem doA_len (m : List Int) (y : Ac) : (doA m y).1.length = m.length := by
  unfold doA
  repeat' split
  all_goals simp
theorem doA_bad {m : List Int} {y : Ac} (h : (doA m y).2.2.2 ≠ 0) : doA m y = (m, 0, false, (doA m y).2.2.2) := by
  revert h
  unfold doA
  repeat' split
  all_goals simp
theorem i64_getD0 {l : List Int} (h : ∀ x ∈ l, I64 x) (j : Nat) : I64 (l.getD j 0) := by
  rw [List.getD_eq_getElem?_getD]
  by_cases hj : j < l.length
  · rw [List.getElem?_eq_getElem hj]; exact h _ (List.getElem_mem hj)
  · rw [List.getElem?_eq_none (by omega)]; exact ⟨by decide, by decide⟩
theorem doA_fine {m : List Int} (y : Ac) (h : ∀ x ∈ m, I64 x) : (∀ x ∈ (doA m y).1, I64 x) ∧ I64 (doA m y).2.1 := by
  have h0 : I64 0 := ⟨by decide, by decide⟩
  have hg := i64_getD0 h y.2.1.toNat
  unfold doA
  split
  · exact ⟨h, h0⟩
  split
  · exact ⟨h, h0⟩
  split
  · exact ⟨h, hg⟩
  split
  · exact ⟨h, h0⟩
  rename_i hm
  split
  · exact ⟨h, hg⟩
  refine ⟨fun x hx => ?_, hg⟩
  rcases List.mem_or_eq_of_mem_set hx with hx | rfl
  · exact h x hx
  · simp only [mayW, Bool.not_eq_false, Bool.and_eq_true, decide_eq_true_eq] at hm
    unfold I64
    omega
theorem playA_cons (m0 : List Int) (y : Ac) (r : List Ac) (m f : List Int) : playA m0 (y :: r) m f = if (doA m y).2.2.2 = 0 then playA m0 r (doA m y).1 (f ++ [(doA m y).2.1]) else (m0, [], (doA m y).2.2.2) := rfl
/-- accesses of which none is an error -/
def GoodA (m : List Int) : List Ac → Prop
  | [] => True
  | y :: r => (doA m y).2.2.2 = 0 ∧ GoodA (doA m y).1 r
def wordsA (m : List Int) : List Ac → List Int
  | [] => m
  | y :: r => wordsA (doA m y).1 r
def foundA (m : List Int) : List Ac → List Int
  | [] => []
  | y :: r => (doA m y).2.1 :: foundA (doA m y).1 r
theorem playA_good (m0 : List Int) (l : List Ac) : ∀ (m f : List Int), GoodA m l → playA m0 l m f = (wordsA m l, f ++ foundA m l, 0) := by
  induction l with
  | nil => intro m f _; simp [playA, wordsA, foundA]
  | cons y l ih =>
    intro m f h
    rw [playA_cons, if_pos h.1, ih _ _ h.2]
    simp [wordsA, foundA]
theorem foundA_len (l : List Ac) : ∀ m, (foundA m l).length = l.length := by
  induction l with
  | nil => intro m; rfl
  | cons y l ih => intro m; simp [foundA, ih]
theorem wordsA_len (l : List Ac) : ∀ m, (wordsA m l).length = m.length := by
  induction l with
  | nil => intro m; rfl
  | cons y l ih => intro m; rw [wordsA, ih, doA_len]
theorem wordsA_append (l r : List Ac) : ∀ m, wordsA m (l ++ r) = wordsA (wordsA m l) r := by
  induction l with
  | nil => intro m; rfl
  | cons y l ih => intro m; exact ih _
theorem foundA_append (l r : List Ac) : ∀ m, foundA m (l ++ r) = foundA m l ++ foundA (wordsA m l) r := by
  induction l with
  | nil => intro m; rfl
  | cons y l ih => intro m; simp [foundA, wordsA, ih]
theorem goodA_append (l r : List Ac) : ∀ m, GoodA m (l ++ r) ↔ GoodA m l ∧ GoodA (wordsA m l) r := by
  induction l with
  | nil => intro m; simp [GoodA, wordsA]
  | cons y l ih => intro m; simp [GoodA, wordsA, ih, and_assoc]
end Go.Proofs.Ythfbcjbiemdedaa
namespace Go.Proofs.Ythfbcjbiemdedaa
set_option maxRecDepth 100000
open Go.RowKit Go.Sort

def fl (l : List Int) : List Value := l.map (Value.int .i64)
theorem length_fl (l : List Int) : (fl l).length = l.length * 1 := by simp [fl]
theorem fl_append (l m : List Int) : fl (l ++ m) = fl l ++ fl m := List.map_append
theorem fl_at {w : World} {m : List Int} {b off : Nat} (h : ∀ j, j < m.length → w.cell? ⟨b, off + j, none⟩ = some (.int .i64 (m.getD j 0))) : ∀ j u, (fl m)[j]? = some u → w.cell? ((⟨b, off, none⟩ : Addr).add j) = some u := by
  intro j u hj
  have hlt : j < m.length := by
    have := (List.getElem?_eq_some_iff.1 hj).1
    simpa [fl] using this
  have e : u = .int .i64 (m.getD j 0) := by
    simp only [fl, List.getElem?_map, List.getElem?_eq_getElem hlt, Option.map_some, Option.some.injEq] at hj
    rw [← hj, List.getD_eq_getElem?_getD, List.getElem?_eq_getElem hlt, Option.getD_some]
  rw [e]
  rw [Addr.add_lit]
  exact h j hlt
theorem fl_cell1 (m : List Int) : ∀ u ∈ fl m, u.oneCell' = true := by
  intro u hu
  obtain ⟨x, _, rfl⟩ := List.mem_map.1 hu
  rfl

theorem info_int : (Try.prog.info? 3).map (fun i => (i.zero, i.size, i.bytes)) = some (some (.int .i64 0), 1, 8) := by kernel_rfl

theorem append_none {w : World} {B : Nat} {v : Value} {out : List Int} (c : Nat) (ho : Own w B v out) :
    (Builtin.append_ #[22, 22] 22 #[v, .slice none 0 c]).run Try.prog w = .ok v w := by
  obtain ⟨i0, hi, hz0, hz1, hz2⟩ := info_parts info_int
  rcases ho.2 with ⟨rfl, _⟩ | ⟨g, cap, cur, rfl, _, _, hnc, _⟩
  · simp [Builtin.append_, run_underlying Try.underlying22, sizeOf, typeInfo, hi, Builtin.lenOf, Builtin.firstCells]
  · simp [Builtin.append_, run_underlying Try.underlying22, sizeOf, typeInfo, hi, Builtin.lenOf, Builtin.firstCells, storeCells, hnc]

/-! ### bit k of a number, as the two texts ask for it -/
end Go.Proofs.Ythfbcjbiemdedaa
namespace Go.Proofs.Ythfbcjbiemdedaa
set_option linter.unusedVariables false
set_option linter.unusedSimpArgs false
open Go.RowKit Go.Sort

theorem eq_of_all {l m : List Int} (hlen : l.length = m.length) (h : ∀ j, j < l.length → l.getD j 0 = m.getD j 0) : l = m := by
  refine List.ext_getElem hlen fun j h1 h2 => ?_
  have := h j h1
  rwa [List.getD_eq_getElem?_getD, List.getD_eq_getElem?_getD, List.getElem?_eq_getElem h1, List.getElem?_eq_getElem h2] at this

theorem ints_len (A A' : Option Addr) (n m c c' : Nat) (w : World) (hne : n ≠ m) :
    Calls Try.prog 13 #[.slice A n c, .slice A' m c'] w fun e w' => e = .returned (.bool false) ∧ Below w.heap.size w w' := by
  have hz : ((n : Int) == (m : Int)) = false := beq_eq_false_iff_ne.2 (by omega)
  have hz2 : ((n : Int) != (m : Int)) = true := by rw [bne, hz]; rfl
  go_enter Try.func13, Try.ntmps13
  go_wp2
  go_ret
  exact ⟨rfl, Below.refl _ _⟩

theorem ints_same (A A' : Option Addr) (l m : List Int) (c c' : Nat) (w : World) (hR : Now w A l) (hR' : Now w A' m) (hl : l.length ≤ 1000000) (hlm : l.length = m.length) :
    Calls Try.prog 13 #[.slice A l.length c, .slice A' l.length c'] w fun e w' => e = .returned (.bool (decide (l = m))) ∧ Below w.heap.size w w' := by
  generalize hr : decide (l = m) = r
  have HR := Lib.hid hr
  have HLM := Lib.hid hlm
  clear hr hlm
  go_enter Try.func13, Try.ntmps13
  go_wp2
  go_loopw [5] (fun i wr => ∃ k : Nat, k ≤ l.length ∧ i = .int .i64 k ∧ Hid (∀ j, j < k → l.getD j 0 = m.getD j 0) ∧ Below w.heap.size w wr) (fun i _ => l.length - (intOf i).toNat)
  case atStart => exact ⟨0, Nat.zero_le _, rfl, (show Hid _ from fun j hj => absurd hj (Nat.not_lt_zero j)), Below.refl _ _⟩
  case round =>
    obtain ⟨k, hk, rfl, HK, hb⟩ := hrel
    by_cases hlt : k < l.length
    · have hltz : (k : Int) < (l.length : Int) := by omega
      obtain ⟨b, off, rfl, hbB, hcell⟩ := hR.at_ (by omega)
      obtain ⟨b2, off2, rfl, hbB2, hcell2⟩ := hR'.at_ (by have := HLM.out; omega)
      obtain ⟨x, hx⟩ : ∃ p, p = l.getD k 0 := ⟨_, rfl⟩
      obtain ⟨y, hy⟩ : ∃ p, p = m.getD k 0 := ⟨_, rfl⟩
      have a0 := hcell k hlt
      have e0 := hcell2 k (by have := HLM.out; omega)
      rw [← hx] at a0
      rw [← hy] at e0
      have k0 := Qt.cell_in (Qt.keep hb a0)
      have k2 := Qt.cell_in (Qt.keep hb e0)
      have HX := Lib.hid hx
      have HY := Lib.hid hy
      clear hx hy hcell hcell2 a0 e0
      by_cases hxy : x = y
      · subst hxy
        go_wp2
        refine Qt.below_all (by kernel_rfl) (by kernel_rfl) ?_
        repeat (go_big_quiet_step (fail))
        refine wpQuiet_nil ?_
        intro w1 hb1
        clear k0 k2
        go_wp2
        go_roundw
        case measure => simp [intOf]; omega
        case rel =>
          refine ⟨k + 1, by omega, by go_num, (show Hid _ from fun j hj => ?_), Qt.more hb hb.size hb1⟩
          by_cases hjk : j = k
          · subst hjk; rw [← HX.out, ← HY.out]
          · exact HK.out j (by omega)
      · have hne : l ≠ m := by
          intro e
          subst e
          exact hxy (HX.out.trans HY.out.symm)
        have HNE := Lib.hid hne
        clear hne
        go_wp2
        refine Qt.below_all (by kernel_rfl) (by kernel_rfl) ?_
        repeat (go_big_quiet_step (fail))
        refine wpQuiet_nil ?_
        intro w1 hb1
        clear k0 k2
        go_wp2
        go_ret
        exact ⟨by rw [← HR.out, decide_eq_false HNE.out]; rfl, Qt.more hb hb.size hb1⟩
    · have hltz : ¬ (k : Int) < (l.length : Int) := by omega
      have he : l = m := eq_of_all HLM.out fun j hj => HK.out j (by omega)
      have HE := Lib.hid he
      clear he
      go_wp2
      go_ret
      exact ⟨by rw [← HR.out, decide_eq_true HE.out]; rfl, hb⟩

theorem ints_any {A A' : Option Addr} {l m : List Int} {n n' c c' : Nat} {w : World} (hR : Now w A l) (hR' : Now w A' m) (hn : n = l.length) (hn' : n' = m.length) (hl : n ≤ 1000000) :
    Calls Try.prog 13 #[.slice A n c, .slice A' n' c'] w fun e w' => e = .returned (.bool (decide (l = m))) ∧ Below w.heap.size w w' := by
  subst hn hn'
  by_cases h : l.length = m.length
  · have := ints_same A A' l m c c' w hR hR' hl h
    rwa [← h]
  · rw [decide_eq_false fun e => h (congrArg List.length e)]
    exact ints_len A A' _ _ c c' w h
theorem ints_yes {A A' : Option Addr} {l m : List Int} {n n' c c' : Nat} {w : World} (hR : Now w A l) (hR' : Now w A' m) (hn : n = l.length) (hn' : n' = m.length) (hl : n ≤ 1000000) (he : l = m) :
    Calls Try.prog 13 #[.slice A n c, .slice A' n' c'] w fun e w' => e = .returned (.bool true) ∧ Below w.heap.size w w' := by
  have := ints_any (c := c) (c' := c') hR hR' hn hn' hl
  rwa [decide_eq_true he] at this

end Go.Proofs.Ythfbcjbiemdedaa
namespace Go.Proofs.Ythfbcjbiemdedaa
set_option maxRecDepth 100000
set_option linter.unusedVariables false
set_option linter.unusedSimpArgs false
open Go.RowKit Go.Sort

theorem known_any (k : Int) (w : World) : Calls Try.prog 20 #[.int .i64 k] w fun r w' => r = .returned (.bool (knownA k)) ∧ w = w' := by
  by_cases h : 1 ≤ k ∧ k ≤ 4
  · have e : knownA k = true := by simp [knownA, h]
    rw [e]
    have : k = 1 ∨ k = 2 ∨ k = 3 ∨ k = 4 := by omega
    rcases this with rfl | rfl | rfl | rfl
    all_goals
      go_enter Try.func20, Try.ntmps20
      go_wp2
      go_ret
      exact ⟨rfl, rfl⟩
  · have e : knownA k = false := by
      simp only [knownA, Bool.and_eq_false_iff, decide_eq_false_iff_not]
      omega
    rw [e]
    have e1 : (k == 1) = false := beq_eq_false_iff_ne.2 (by omega)
    have e2 : (k == 2) = false := beq_eq_false_iff_ne.2 (by omega)
    have e3 : (k == 3) = false := beq_eq_false_iff_ne.2 (by omega)
    have e4 : (k == 4) = false := beq_eq_false_iff_ne.2 (by omega)
    go_enter Try.func20, Try.ntmps20
    go_wp2
    go_ret
    exact ⟨rfl, rfl⟩

theorem fits_any (n : Int) (w : World) : Calls Try.prog 23 #[.int .i64 n] w fun r w' => r = .returned (.bool (mayW n)) ∧ w = w' := by
  unfold mayW
  by_cases h1 : -1152921504606846975 ≤ n
  · by_cases h2 : n ≤ 1152921504606846975
    all_goals
      go_enter Try.func23, Try.ntmps23
      go_wp2
      go_ret
      exact ⟨by simp [h1, h2], rfl⟩
  · go_enter Try.func23, Try.ntmps23
    go_wp2
    go_ret
    exact ⟨by rw [decide_eq_false (by omega)]; rfl, rfl⟩

theorem refFits_any10 (n : Int) (w : World) : Calls Try.prog 19 #[.int .i64 n] w fun r w' => r = .returned (.bool (mayW n)) ∧ w = w' := by
  unfold mayW
  by_cases h1 : -1152921504606846975 ≤ n
  · by_cases h2 : n ≤ 1152921504606846975
    all_goals
      go_enter Try.func19, Try.ntmps19
      go_wp2
      go_ret
      exact ⟨by simp [h1, h2], rfl⟩
  · go_enter Try.func19, Try.ntmps19
    go_wp2
    go_ret
    exact ⟨by rw [decide_eq_false (by omega)]; rfl, rfl⟩

abbrev acV (y : Ac) : Value := .agg #[.int .i64 y.1, .int .i64 y.2.1, .int .i64 y.2.2.1, .int .i64 y.2.2.2]
def Fine4A (y : Ac) : Prop := I64 y.1 ∧ I64 y.2.1 ∧ I64 y.2.2.1 ∧ I64 y.2.2.2

/-- no word at the place -/
theorem word_no (k a o n : Int) (A : Option Addr) (L c : Nat) (w : World) (h : a < 0 ∨ (L : Int) ≤ a) :
    Calls Try.prog 21 #[.agg #[.int .i64 k, .int .i64 a, .int .i64 o, .int .i64 n, .slice A L c]] w fun r w' => r = .returned (.pointer none) ∧ Below w.heap.size w w' := by
  by_cases h0 : a < 0
  · go_enter Try.func21, Try.ntmps21
    go_wp2
    go_ret
    exact ⟨rfl, (Below.refl _ _).alloc (Nat.le_refl _) _⟩
  · have h1 : (L : Int) ≤ a := by omega
    go_enter Try.func21, Try.ntmps21
    go_wp2
    go_ret
    exact ⟨rfl, (Below.refl _ _).alloc (Nat.le_refl _) _⟩
theorem word_yes (k o n : Int) (a : Nat) (b off : Nat) (L c : Nat) (w : World) (h : a < L) :
    Calls Try.prog 21 #[.agg #[.int .i64 k, .int .i64 a, .int .i64 o, .int .i64 n, .slice (some ⟨b, off, none⟩) L c]] w fun r w' => r = .returned (.pointer (some ⟨b, off + a, none⟩)) ∧ Below w.heap.size w w' := by
  have h0 : ¬ (a : Int) < 0 := by omega
  have h1 : ¬ (L : Int) ≤ (a : Int) := by omega
  go_enter Try.func21, Try.ntmps21
  go_wp2
  go_ret
  exact ⟨rfl, (Below.refl _ _).alloc (Nat.le_refl _) _⟩

/-- a step's block -/
theorem step_row (y : Ac) (A : Option Addr) (L c : Nat) (w : World) : (w.alloc (.cells #[.int .i64 y.1, .int .i64 y.2.1, .int .i64 y.2.2.1, .int .i64 y.2.2.2, .slice A L c] 51)).heap[w.heap.size]? = some (.cells #[.int .i64 y.1, .int .i64 y.2.1, .int .i64 y.2.2.1, .int .i64 y.2.2.2, .slice A L c] 51 (0, 0)) := heap_alloc_new w _
theorem next_not (k a o n x : Int) (A : Option Addr) (L c : Nat) (w : World) (h : k ≠ 4) (hn : I64 n) (hx : I64 x) :
    Calls Try.prog 22 #[.agg #[.int .i64 k, .int .i64 a, .int .i64 o, .int .i64 n, .slice A L c], .int .i64 x] w fun r w' => r = .returned (.tuple #[.int .i64 n, .bool (mayW n)]) ∧ Below w.heap.size w w' := by
  have h0 : (k == 4) = false := beq_eq_false_iff_ne.2 h
  have h1 : (k != 4) = true := by rw [bne, h0]; rfl
  have hrow := step_row (k, a, o, n) A L c w
  have hal := (Below.refl w.heap.size w).alloc (Nat.le_refl _) (.cells #[.int .i64 k, .int .i64 a, .int .i64 o, .int .i64 n, .slice A L c] 51)
  simp only at hrow
  have HR := Lib.hid hrow
  have HA := Lib.hid hal
  clear hrow hal
  go_enter Try.func22, Try.ntmps22
  go_wp2_with fail
  obtain ⟨w0, hw0⟩ : ∃ w0, w.alloc (.cells #[.int .i64 k, .int .i64 a, .int .i64 o, .int .i64 n, .slice A L c] 51) = w0 := ⟨_, rfl⟩
  rw [hw0] at HR HA ⊢
  clear hw0
  have hf := fun W (_ : Below w0.heap.size w0 W) => fits_any n W
  have k3 := Qt.cell_in (show w0.cell? ⟨w.heap.size, 3, none⟩ = some (.int .i64 n) by rw [Lib.cell_of_heap HR.out]; rfl)
  refine Qt.below_all (by kernel_rfl) (by kernel_rfl) ?_
  repeat (go_big_quiet_step (first | (go_at_call 23; exact Qt.at_same hf)))
  refine wpQuiet_nil ?_
  intro w2 hb2
  clear hf k3
  go_wp2_with fail
  go_ret2
  exact ⟨rfl, Qt.more HA.out HA.out.size hb2⟩
theorem add_cases {x n : Int} (hn : I64 n) (hx : I64 x) :
    (mayW (wrap64 (x + n)) = false ∧ mayW (x + n) = false) ∨ (mayW (wrap64 (x + n)) = true ∧ mayW (x + n) = true ∧ wrap64 (x + n) = x + n ∧ decide (n < 0) = decide (wrap64 (x + n) < x)) ∨
      (mayW (wrap64 (x + n)) = true ∧ mayW (x + n) = false ∧ decide (n < 0) = !decide (wrap64 (x + n) < x)) := by
  unfold I64 at hn hx
  have hs : wrap64 (x + n) = x + n ∨ (0 < n ∧ wrap64 (x + n) = x + n - 18446744073709551616 ∧ 9223372036854775807 < x + n) ∨ (n < 0 ∧ wrap64 (x + n) = x + n + 18446744073709551616 ∧ x + n < -9223372036854775808) := by
    unfold wrap64; omega
  cases hm : mayW (wrap64 (x + n)) with
  | false =>
    left
    refine ⟨rfl, ?_⟩
    rcases hs with hs | ⟨_, _, h⟩ | ⟨_, _, h⟩
    · rw [← hs]; exact hm
    · unfold mayW; rw [decide_eq_false (p := x + n ≤ 1152921504606846975) (by omega), Bool.and_false]
    · unfold mayW; rw [decide_eq_false (p := -1152921504606846975 ≤ x + n) (by omega), Bool.false_and]
  | true =>
    right
    rcases hs with hs | ⟨h1, h2, h⟩ | ⟨h1, h2, h⟩
    · left
      rw [hs] at hm ⊢
      exact ⟨rfl, hm, rfl, decide_eq_decide.2 (by omega)⟩
    · right
      refine ⟨rfl, ?_, ?_⟩
      · unfold mayW; rw [decide_eq_false (p := x + n ≤ 1152921504606846975) (by omega), Bool.and_false]
      · rw [decide_eq_false (p := n < 0) (by omega), decide_eq_true (p := wrap64 (x + n) < x) (by omega)]; rfl
    · right
      refine ⟨rfl, ?_, ?_⟩
      · unfold mayW; rw [decide_eq_false (p := -1152921504606846975 ≤ x + n) (by omega), Bool.false_and]
      · rw [decide_eq_true (p := n < 0) (by omega), decide_eq_false (p := wrap64 (x + n) < x) (by omega)]; rfl
set_option maxHeartbeats 2000000 in
theorem next_add (a o n x : Int) (A : Option Addr) (L c : Nat) (w : World) (hn : I64 n) (hx : I64 x) :
    Calls Try.prog 22 #[.agg #[.int .i64 4, .int .i64 a, .int .i64 o, .int .i64 n, .slice A L c], .int .i64 x] w fun r w' => (∃ v, r = .returned (.tuple #[.int .i64 v, .bool (mayW (x + n))]) ∧ (mayW (x + n) = true → v = x + n)) ∧ Below w.heap.size w w' := by
  have hrow := step_row (4, a, o, n) A L c w
  have hal := (Below.refl w.heap.size w).alloc (Nat.le_refl _) (.cells #[.int .i64 4, .int .i64 a, .int .i64 o, .int .i64 n, .slice A L c] 51)
  simp only at hrow
  have HR := Lib.hid hrow
  have HA := Lib.hid hal
  have hcs := add_cases hn hx
  obtain ⟨s, hs⟩ : ∃ s, s = wrap64 (x + n) := ⟨_, rfl⟩
  rw [← hs] at hcs
  have HS := Lib.hid hs
  clear hrow hal hs
  obtain ⟨b1, hb1⟩ : ∃ b1, decide (n < 0) = b1 := ⟨_, rfl⟩
  obtain ⟨b2, hb2⟩ : ∃ b2, decide (s < x) = b2 := ⟨_, rfl⟩
  obtain ⟨b3, hb3⟩ : ∃ b3, mayW s = b3 := ⟨_, rfl⟩
  rw [hb1, hb2, hb3] at hcs
  have hfin : ((b3 && b1 == b2) = mayW (x + n)) ∧ (mayW (x + n) = true → s = x + n) := by
    rcases hcs with ⟨rfl, h2⟩ | ⟨rfl, h2, h3, rfl⟩ | ⟨rfl, h2, rfl⟩
    · rw [h2]; exact ⟨rfl, fun h => by cases h⟩
    · rw [h2]; exact ⟨by simp, fun _ => h3⟩
    · rw [h2]; exact ⟨by simp, fun h => by cases h⟩
  have HF := Lib.hid hfin
  clear hfin hcs
  go_enter Try.func22, Try.ntmps22
  go_wp2_with fail
  obtain ⟨w0, hw0⟩ : ∃ w0, w.alloc (.cells #[.int .i64 4, .int .i64 a, .int .i64 o, .int .i64 n, .slice A L c] 51) = w0 := ⟨_, rfl⟩
  rw [hw0] at HR HA ⊢
  rw [← HS.out]
  clear hw0
  have hf := fun W (_ : Below w0.heap.size w0 W) => fits_any s W
  rw [hb3] at hf
  have k3 := Qt.cell_in (show w0.cell? ⟨w.heap.size, 3, none⟩ = some (.int .i64 n) by rw [Lib.cell_of_heap HR.out]; rfl)
  refine Qt.below_all (by kernel_rfl) (by kernel_rfl) ?_
  cases b3 <;> cases b1 <;> cases b2
  all_goals
    repeat (go_big_quiet_step (first | (go_at_call 23; exact Qt.at_same hf)))
    refine wpQuiet_nil ?_
    intro w2 hb2
    clear hf k3
    go_wp2_with fail
    go_ret2
    exact ⟨⟨s, by rw [← HF.out.1]; rfl, HF.out.2⟩, Qt.more HA.out HA.out.size hb2⟩
theorem next_any (k a o n x : Int) (A : Option Addr) (L c : Nat) (w : World) (hn : I64 n) (hx : I64 x) :
    Calls Try.prog 22 #[.agg #[.int .i64 k, .int .i64 a, .int .i64 o, .int .i64 n, .slice A L c], .int .i64 x] w fun r w' => (∃ v, r = .returned (.tuple #[.int .i64 v, .bool (mayW (toA (k, a, o, n) x))]) ∧ (mayW (toA (k, a, o, n) x) = true → v = toA (k, a, o, n) x)) ∧ Below w.heap.size w w' := by
  by_cases h : k = 4
  · subst h
    exact next_add a o n x A L c w hn hx
  · have e : toA (k, a, o, n) x = n := by unfold toA; rw [if_neg h]
    rw [e]
    refine (next_not k a o n x A L c w h hn hx).mono ?_
    rintro r w' ⟨rfl, hb⟩
    exact ⟨⟨n, rfl, fun _ => rfl⟩, hb⟩
end Go.Proofs.Ythfbcjbiemdedaa
namespace Go.Proofs.Ythfbcjbiemdedaa
set_option maxRecDepth 100000
set_option linter.unusedVariables false
set_option linter.unusedSimpArgs false
open Go.RowKit Go.Sort

theorem grown_below {w w' : World} (h : Below w.heap.size w w') (row : Option Nat) : w.grownBy w' row := ⟨h.os, h.tape, h.output, h.size, fun k hk _ => h.block k hk⟩
theorem lt_heap6' {w : World} {g : Nat} {o : Obj} (h : w.heap[g]? = some o) : g < w.heap.size := (Array.getElem?_eq_some_iff.1 h).1
theorem own_next {w w' : World} {B : Nat} {v : Value} {l : List Int} (h : Own w B v l) (hb : Below w.heap.size w w') : Own w' B v l := h.kept (grown_below hb none) (by cases v.ownBlock <;> simp)
theorem own_row {w : World} {B : Nat} {A : Option Addr} {c : Nat} {l : List Int} (h : Own w B (.slice A l.length c) l) (hl : 0 < l.length) : ∃ g, A = some ⟨g, 0, none⟩ ∧ B ≤ g ∧ g < w.heap.size ∧ (∀ j, w.frozen? ⟨g, j, none⟩ = false) ∧
    ∀ j, j < l.length → w.cell? ⟨g, j, none⟩ = some (.int .i64 (l.getD j 0)) := by
  rcases h.2 with ⟨_, h0⟩ | ⟨g, cap, cur, hv, _⟩
  · omega
  · injection hv with e1 e2 e3
    subst e1 e3
    have hlt := h.lt g rfl
    refine ⟨g, rfl, hlt.1, hlt.2, fun j => h.frozenAt j, fun j hj => ?_⟩
    rw [h.cellAt j (by omega)]
    simp [List.getD_eq_getElem?_getD, List.getElem?_eq_getElem hj]
theorem own_set {w : World} {B g c : Nat} {l : List Int} (h : Own w B (.slice (some ⟨g, 0, none⟩) l.length c) l) (j : Nat) (x : Int) :
    Own (w.setCell ⟨g, j, none⟩ (.int .i64 x)) B (.slice (some ⟨g, 0, none⟩) l.length c) (l.set j x) ∧ w.grownBy (w.setCell ⟨g, j, none⟩ (.int .i64 x)) (some g) := by
  obtain ⟨h1, h2⟩ := h.stored j (.int .i64 x)
  refine ⟨?_, h2⟩
  show World.ownsRow _ _ _ _ _ _ _
  rw [List.length_set, List.map_set]
  exact h1
/-- what Do tells: what was there, whether it was done, the error; the words as they are then -/
def DoR (B : Nat) (v : Value) (d : DoT) (w : World) (r : Ending) (w' : World) : Prop := r = .returned (.tuple #[.int .i64 d.2.1, .bool d.2.2.1, .int .i64 d.2.2.2]) ∧ Own w' B v d.1 ∧ w.grownBy w' v.ownBlock

set_option maxHeartbeats 4000000 in
theorem wdo_any (y : Ac) (m : List Int) (A : Option Addr) (c : Nat) (w : World) {B : Nat} (fy : Fine4A y) (hm : ∀ x ∈ m, I64 x) (hB : B ≤ w.heap.size) (hO : Own w B (.slice A m.length c) m) (hl : m.length ≤ 9223372036854775807) :
    Calls Try.prog 18 #[.slice A m.length c, acV y] w (DoR B (.slice A m.length c) (doA m y) w) := by
  obtain ⟨k, a, o, n⟩ := y
  obtain ⟨-, fa, -, fn⟩ := fy
  simp only at fa fn
  have hkn := fun W => known_any k W
  have HB : Hid (Below w.heap.size w (w.alloc (.cells #[.int .i64 k, .int .i64 a, .int .i64 o, .int .i64 n] 25))) := (Below.refl _ _).alloc (Nat.le_refl _) _
  have HR : Hid ((w.alloc (.cells #[.int .i64 k, .int .i64 a, .int .i64 o, .int .i64 n] 25)).heap[w.heap.size]? = some (.cells #[.int .i64 k, .int .i64 a, .int .i64 o, .int .i64 n] 25 (0, 0))) := heap_alloc_new w _
  have HO := Lib.hid (own_next hO HB.out)
  have HM := Lib.hid hm
  clear hO hm
  have e1 : knownA k = false → doA m (k, a, o, n) = (m, 0, false, 1) := fun h => by unfold doA; rw [if_pos (.inl h)]
  have e2 : 100000 < m.length → doA m (k, a, o, n) = (m, 0, false, 1) := fun h => by unfold doA; rw [if_pos (.inr h)]
  have HE1 := Lib.hid e1
  have HE2 := Lib.hid e2
  clear e1 e2
  go_enter Try.func18, Try.ntmps18
  go_wp2_with fail
  generalize w.alloc (.cells #[.int .i64 k, .int .i64 a, .int .i64 o, .int .i64 n] 25) = w0 at *
  have hfin : ∀ wz, Below w0.heap.size w0 wz → ∀ x is e, doA m (k, a, o, n) = (m, x, is, e) → DoR B (.slice A m.length c) (doA m (k, a, o, n)) w (.returned (.tuple #[.int .i64 x, .bool is, .int .i64 e])) wz := fun wz hz x is e he => by
    rw [he]
    exact ⟨rfl, own_next HO.out hz, (grown_below HB.out _).trans (grown_below hz _)⟩
  have HF := Lib.hid hfin
  clear hfin
  have hb0 := HB.out.size
  have q0 : w0.cell? ⟨w.heap.size, 0, none⟩ = some (.int .i64 k) := by rw [Lib.cell_of_heap HR.out]; rfl
  have q1 : w0.cell? ⟨w.heap.size, 1, none⟩ = some (.int .i64 a) := by rw [Lib.cell_of_heap HR.out]; rfl
  have q2 : w0.cell? ⟨w.heap.size, 2, none⟩ = some (.int .i64 o) := by rw [Lib.cell_of_heap HR.out]; rfl
  have q3 : w0.cell? ⟨w.heap.size, 3, none⟩ = some (.int .i64 n) := by rw [Lib.cell_of_heap HR.out]; rfl
  refine (hkn _).mono ?_
  rintro e w' ⟨rfl, rfl⟩
  clear hkn
  cases hk : knownA k with
  | false =>
    have HK := Lib.hid hk
    clear hk
    go_wp2_with fail
    go_ret3
    exact HF.out _ (Below.refl _ _) _ _ _ (HE1.out HK.out)
  | true =>
  have HK := Lib.hid hk
  clear hk
  by_cases hL : 100000 < m.length
  · have hLz : (100000 : Int) < (m.length : Int) := by omega
    go_wp2_with fail
    go_ret3
    exact HF.out _ (Below.refl _ _) _ _ _ (HE2.out hL)
  have hLz : ¬ (100000 : Int) < (m.length : Int) := by omega
  have HS : Hid (Below w0.heap.size w0 (w0.alloc (.cells #[.int .i64 k, .int .i64 a, .int .i64 o, .int .i64 n, .slice A m.length c] 51))) := (Below.refl _ _).alloc (Nat.le_refl _) _
  have HSR := Lib.hid (step_row (k, a, o, n) A m.length c w0)
  simp only at HSR
  have HLt : Hid (w0.heap.size < (w0.alloc (.cells #[.int .i64 k, .int .i64 a, .int .i64 o, .int .i64 n, .slice A m.length c] 51)).heap.size) := by show _ < _; simp
  go_wp2_with fail
  generalize w0.alloc (.cells #[.int .i64 k, .int .i64 a, .int .i64 o, .int .i64 n, .slice A m.length c] 51) = w1 at *
  generalize hg1 : w0.heap.size = g1 at *
  have HSR1 := HSR.out
  by_cases hat : a < 0 ∨ (m.length : Int) ≤ a
  · have he : doA m (k, a, o, n) = (m, 0, false, 2) := by
      unfold doA
      rw [if_neg (by rintro (h | h); · exact absurd (HK.out.symm.trans h) (by simp)
                     · exact hL h), if_pos hat]
    have HE := Lib.hid he
    clear he
    refine (word_no k a o n A m.length c _ hat).mono ?_
    rintro e w2 ⟨rfl, hb2⟩
    have HB2 := Lib.hid (Qt.more HS.out (by have := HS.out.size; omega) hb2)
    clear hb2 hat
    go_wp2_with fail
    go_ret3
    exact HF.out _ HB2.out _ _ _ HE.out
  obtain ⟨u, rfl⟩ : ∃ u : Nat, a = u := ⟨a.toNat, by omega⟩
  have hu : u < m.length := by omega
  obtain ⟨g, rfl, hgB, hgl, hfz, hcell⟩ := own_row HO.out (by omega)
  refine (word_yes k o n u g 0 m.length c _ hu).mono ?_
  rintro e w2 ⟨rfl, hb2⟩
  have HB2 := Lib.hid (Qt.more HS.out (by have := HS.out.size; omega) hb2)
  have hk2 := Lib.hid (show Below w1.heap.size w1 w2 from hb2)
  have HSR2 := Lib.hid ((hb2.block _ HLt.out).trans HSR1)
  have c0 : w2.cell? ⟨g, u, none⟩ = some (.int .i64 (m.getD u 0)) := (HB2.out.cell (p := ⟨g, u, none⟩) (by show g < _; omega)).trans (hcell u hu)
  have cf : w2.frozen? ⟨g, u, none⟩ = false := (HB2.out.frozen (p := ⟨g, u, none⟩) (by show g < _; omega)).trans (hfz u)
  have s0 : w2.cell? ⟨g1, 0, none⟩ = some (.int .i64 k) := by rw [Lib.cell_of_heap HSR2.out]; rfl
  have s1 : w2.cell? ⟨g1, 1, none⟩ = some (.int .i64 (u : Int)) := by rw [Lib.cell_of_heap HSR2.out]; rfl
  have s2 : w2.cell? ⟨g1, 2, none⟩ = some (.int .i64 o) := by rw [Lib.cell_of_heap HSR2.out]; rfl
  have s3 : w2.cell? ⟨g1, 3, none⟩ = some (.int .i64 n) := by rw [Lib.cell_of_heap HSR2.out]; rfl
  have s4 : w2.cell? ⟨g1, 4, none⟩ = some (.slice (some ⟨g, 0, none⟩) m.length c) := by rw [Lib.cell_of_heap HSR2.out]; rfl
  have hx : I64 (m.getD u 0) := i64_getD0 HM.out u
  have HD : Hid (doA m (k, (u : Int), o, n) = if k = 1 then (m, m.getD u 0, true, 0) else if mayW (toA (k, (u : Int), o, n) (m.getD u 0)) = false then (m, 0, false, 2) else if k = 3 ∧ m.getD u 0 ≠ o then (m, m.getD u 0, false, 0) else (m.set u (toA (k, (u : Int), o, n) (m.getD u 0)), m.getD u 0, true, 0)) := by
    show _ = _
    unfold doA
    rw [if_neg (by rintro (h | h); · exact absurd (HK.out.symm.trans h) (by simp)
                   · exact hL h), if_neg (by simp only; omega)]
    simp only [Int.toNat_natCast]
  obtain ⟨x, hxx⟩ : ∃ x, x = m.getD u 0 := ⟨_, rfl⟩
  rw [← hxx] at c0 hx HD
  have HX := Lib.hid hxx
  clear hxx hcell hfz hb2 HSR1 hat q0 q1 q2 q3
  rw [Nat.zero_add]
  by_cases hk1 : k = 1
  · have he : doA m (k, (u : Int), o, n) = (m, x, true, 0) := by rw [HD.out, if_pos hk1]
    have HE := Lib.hid he
    clear he HD
    subst hk1
    go_wp2_with fail
    go_ret3
    exact HF.out _ HB2.out _ _ _ HE.out
  have hk1' : (k == 1) = false := beq_eq_false_iff_ne.2 hk1
  go_wp2_with fail
  obtain ⟨z, hz⟩ : ∃ z, z = toA (k, (u : Int), o, n) x := ⟨_, rfl⟩
  have hnx := next_any k u o n x (some ⟨g, 0, none⟩) m.length c w2 fn hx
  rw [← hz] at hnx HD
  clear hz
  refine hnx.mono ?_
  rintro e w3 ⟨⟨v, rfl, hv⟩, hb3⟩
  have HB3 := Lib.hid (Qt.more HB2.out (by have := HB2.out.size; omega) (hb3.mono (by have := hk2.out.size; have := HLt.out; omega)))
  clear hnx
  have hk3 : Below w2.heap.size w2 w3 := hb3
  have l2 : g1 < w2.heap.size := lt_heap6' HSR2.out
  have r0 : w3.cell? ⟨g1, 0, none⟩ = some (.int .i64 k) := (hk3.cell (p := ⟨g1, 0, none⟩) l2).trans s0
  have r2 : w3.cell? ⟨g1, 2, none⟩ = some (.int .i64 o) := (hk3.cell (p := ⟨g1, 2, none⟩) l2).trans s2
  have l3 : g < w2.heap.size := block_lt_of_cell c0
  have rf : w3.frozen? ⟨g, u, none⟩ = false := (hk3.frozen (p := ⟨g, u, none⟩) l3).trans cf
  have r3 : w3.cell? ⟨g, u, none⟩ = some (.int .i64 x) := (hk3.cell (p := ⟨g, u, none⟩) l3).trans c0
  clear s0 s1 s2 s3 s4 c0 cf hk3 hb3
  cases hmz : mayW z with
  | false =>
    have he : doA m (k, (u : Int), o, n) = (m, 0, false, 2) := by rw [HD.out, if_neg hk1, if_pos hmz]
    have HE := Lib.hid he
    clear he HD hmz hv
    go_wp2_with fail
    go_ret3
    exact HF.out _ HB3.out _ _ _ HE.out
  | true =>
  have hvz := hv hmz
  clear hv
  subst hvz
  by_cases hsw : k = 3 ∧ x ≠ o
  · have he : doA m (k, (u : Int), o, n) = (m, x, false, 0) := by rw [HD.out, if_neg hk1, if_neg (by rw [hmz]; simp), if_pos hsw]
    have HE := Lib.hid he
    obtain ⟨hk3, hxo⟩ := hsw
    have hxo1 : (x == o) = false := beq_eq_false_iff_ne.2 hxo
    have hxo2 : (x != o) = true := by rw [bne, hxo1]; rfl
    clear he HD hmz
    subst hk3
    go_wp2_with fail
    go_ret3
    exact HF.out _ HB3.out _ _ _ HE.out
  have he : doA m (k, (u : Int), o, n) = (m.set u v, x, true, 0) := by rw [HD.out, if_neg hk1, if_neg (by rw [hmz]; simp), if_neg hsw]
  have HE := Lib.hid he
  have hend : ∀ wz, wz = w3.setCell ⟨g, u, none⟩ (.int .i64 v) → DoR B (.slice (some ⟨g, 0, none⟩) m.length c) (doA m (k, (u : Int), o, n)) w (.returned (.tuple #[.int .i64 x, .bool true, .int .i64 0])) wz := by
    rintro wz rfl
    rw [HE.out]
    have h3 := own_next HO.out (show Below w0.heap.size w0 w3 by rw [hg1]; exact HB3.out)
    obtain ⟨h4, h5⟩ := own_set h3 u v
    exact ⟨rfl, by have := h4; simpa using this, ((grown_below HB.out _).trans (grown_below (show Below w0.heap.size w0 w3 by rw [hg1]; exact HB3.out) _)).trans h5⟩
  have HEnd := Lib.hid hend
  clear he HD hmz hend HF HE1 HE2 HO
  by_cases hk3 : k = 3
  · have hxo : x = o := by
      by_cases hxo : x = o
      · exact hxo
      · exact absurd ⟨hk3, hxo⟩ hsw
    subst hxo hk3
    clear hsw
    go_wp2_with fail
    go_ret3
    exact HEnd.out _ rfl
  · have hk3' : (k == 3) = false := beq_eq_false_iff_ne.2 hk3
    clear hsw
    go_wp2_with fail
    go_ret3
    exact HEnd.out _ rfl
end Go.Proofs.Ythfbcjbiemdedaa
namespace Go.Proofs.Ythfbcjbiemdedaa
set_option maxRecDepth 100000
set_option linter.unusedVariables false
set_option linter.unusedSimpArgs false
open Go.RowKit Go.Sort

theorem appW_any {w : World} {B : Nat} {v : Value} {out m : List Int} {A : Option Addr} (c : Nat) (hB : B ≤ w.heap.size) (ho : Own w B v out) (hm : Now w A m) (hl : out.length + m.length ≤ 17592186044416) :
    ∃ v' w', (Builtin.append_ #[22, 22] 22 #[v, .slice A m.length c]).run Try.prog w = .ok v' w' ∧ Own w' B v' (out ++ m) ∧ w.grownBy w' v.ownBlock := by
  obtain ⟨i0, hi, hz0, hz1, hz2⟩ := info_parts info_int
  by_cases h0 : m.length = 0
  · have : m = [] := List.eq_nil_of_length_eq_zero h0
    subst this
    cases A with
    | none => exact ⟨v, w, append_none c ho, by rw [List.append_nil]; exact ho, ⟨rfl, rfl, rfl, Nat.le_refl _, fun _ _ _ => rfl⟩⟩
    | some a =>
      obtain ⟨v', w', hr, h2, h3, _⟩ := run_append_own (P := Try.prog) (w := w) B 22 22 3 i0 (.int .i64 0) 1 8 Try.underlying22 hi hz0 hz1 hz2 rfl (by decide) v out.length (fl out) ho a 0 c [] rfl (fun j u h => by simp at h) (fun u h => by cases h) (by unfold maxLen; omega) (by omega) hB
      exact ⟨v', w', hr, by rw [List.append_nil] at h2 ⊢; exact h2, h3⟩
  · obtain ⟨b, off, rfl, _, hcell⟩ := hm.at_ (by omega)
    obtain ⟨v', w', hr, h2, h3, _⟩ := run_append_own (P := Try.prog) (w := w) B 22 22 3 i0 (.int .i64 0) 1 8 Try.underlying22 hi hz0 hz1 hz2 rfl (by decide) v out.length (fl out) ho ⟨b, off, none⟩ m.length c (fl m) (length_fl m) (fl_at hcell) (fl_cell1 m) (by unfold maxLen; omega) (by omega) hB
    refine ⟨v', w', hr, ?_, h3⟩
    show World.ownsRow _ _ _ _ _ _ (fl (out ++ m))
    rw [fl_append, List.length_append]
    exact h2
/-- one number more, that lies in a new block -/
theorem pushW_any {w : World} {B : Nat} {v : Value} {out : List Int} (x : Int) (hB : B ≤ w.heap.size) (ho : Own w B v out) (hl : out.length < 17592186044416) :
    ∃ v' w', (Builtin.append_ #[22, 22] 22 #[v, .slice (some ⟨w.heap.size, 0, none⟩) 1 1]).run Try.prog (w.alloc (.cells #[.int .i64 x] 3)) = .ok v' w' ∧ Own w' B v' (out ++ [x]) ∧ w.grownBy w' v.ownBlock := by
  have hm : Now (w.alloc (.cells #[.int .i64 x] 3)) (some ⟨w.heap.size, 0, none⟩) [x] := fun j hj => by
    have hj1 : j = 0 := by simp at hj; omega
    subst hj1
    exact ⟨w.heap.size, 0, rfl, by simp, by simp⟩
  have ho' : Own (w.alloc (.cells #[.int .i64 x] 3)) B v out := World.ownsRow.alloc ho _
  obtain ⟨v', w', hr, h1, h2⟩ := appW_any (m := [x]) 1 (by simp; omega) ho' hm (by simp; omega)
  exact ⟨v', w', hr, h1, (World.grownBy_alloc w _ _).trans h2⟩
def CloneR (l : List Int) (w : World) (r : Ending) (w' : World) : Prop := ∃ v, r = .returned v ∧ Own w' w.heap.size v l ∧ Below w.heap.size w w'
theorem eql_nil10 (A : Option Addr) (n c : Nat) (w : World) : (binOp .eql 22 (.slice A n c) (.slice none 0 0)).run Try.prog w = .ok (.bool A.isNone) w := by
  have h := run_neq_slice_nil_any (P := Try.prog) w 22 3 A n c 0 0 Try.underlying22
  simp only [binOp] at h ⊢
  cases A <;> simp_all [Op.equal, Op.maxDepth, Lib.run_equalIn_slice_nil w 9999 22 3 _ n c 0 0 Try.underlying22]
theorem now_none {w : World} {l : List Int} (h : Now w none l) : l = [] := by
  cases l with
  | nil => rfl
  | cons x r => obtain ⟨b, off, e, _⟩ := h 0 (by simp); cases e
set_option maxHeartbeats 1000000 in
theorem clone_any (A : Option Addr) (l : List Int) (c : Nat) (w : World) (hR : Now w A l) (hl : l.length ≤ 17592186044416) :
    Calls Try.prog 17 #[.slice A l.length c] w (CloneR l w) := by
  have heq := eql_nil10 A l.length c
  cases A with
  | none =>
    have h0 := now_none hR
    subst h0
    go_enter Try.func17, Try.ntmps17
    simp only [List.length_nil, Option.isNone_none] at heq
    go_wp2
    go_ret
    exact ⟨_, rfl, World.ownsRow_nil _ _ _ _, Below.refl _ _⟩
  | some a =>
    have hB0 : Below w.heap.size w (w.alloc (.cells #[] 3)) := (Below.refl _ w).alloc (Nat.le_refl _) _
    have ho : Own (w.alloc (.cells #[] 3)) w.heap.size (.slice (some ⟨w.heap.size, 0, none⟩) 0 0) [] := World.ownsRow_lit (size := 1) w #[] 0 (Nat.le_refl _) (by unfold maxLen; omega) (by simp)
    obtain ⟨v', w', hrun, hown, hgr⟩ := appW_any c (by simp) ho (Now.below hR hB0) (by simp; omega)
    have HO := Lib.hid hown
    have HB : Hid (Below w.heap.size w w') := hB0.grown hgr (by simp) (fun k e => by simp [Value.ownBlock] at e; omega)
    clear hown hgr ho hB0
    simp only [Option.isNone_some] at heq
    go_enter Try.func17, Try.ntmps17
    go_wp2_with (at_builtin; refine Lib.wpList_append_run _ rfl (.tmp 5) (.tmp 6) 22 22 rfl _ _ rfl rfl _ _ hrun ?_)
    go_ret
    exact ⟨_, rfl, HO.out, HB.out⟩
theorem results_tmp4 {fn : Func} {t u v x : Tmp} (h : fn.results = #[.tmp t, .tmp u, .tmp v, .tmp x]) (tmps : Array Value) (P : Program) (w : World) :
    (results fn tmps).run P w = .ok (.tuple #[tmps.getD t undef, tmps.getD u undef, tmps.getD v undef, tmps.getD x undef]) w := by
  simp [results, h]
/-- what Do answers -/
def DoAns (d : DoT) (w : World) (r : Ending) (w' : World) : Prop := ∃ A c, r = .returned (.tuple #[.slice A d.1.length c, .int .i64 d.2.1, .bool d.2.2.1, .int .i64 d.2.2.2]) ∧ d.1.length ≤ c ∧ Now w' A d.1 ∧ Below w.heap.size w w'
theorem own_slice {w : World} {B : Nat} {v : Value} {l : List Int} (h : Own w B v l) : ∃ A c, v = .slice A l.length c ∧ l.length ≤ c ∧ Now w A l := h.reads
set_option maxHeartbeats 4000000 in
theorem memDo_any (y : Ac) (m : List Int) (A : Option Addr) (c : Nat) (w : World) (fy : Fine4A y) (hm : ∀ x ∈ m, I64 x) (hR : Now w A m) (hc : m.length ≤ c) (hl : m.length ≤ 17592186044416) :
    Calls Try.prog 11 #[.slice A m.length c, acV y] w (DoAns (doA m y) w) := by
  obtain ⟨k, a, o, n⟩ := y
  have HB : Hid (Below w.heap.size w (w.alloc (.cells #[.int .i64 k, .int .i64 a, .int .i64 o, .int .i64 n] 25))) := (Below.refl _ _).alloc (Nat.le_refl _) _
  have HR : Hid ((w.alloc (.cells #[.int .i64 k, .int .i64 a, .int .i64 o, .int .i64 n] 25)).heap[w.heap.size]? = some (.cells #[.int .i64 k, .int .i64 a, .int .i64 o, .int .i64 n] 25 (0, 0))) := heap_alloc_new w _
  have HM := Lib.hid hm
  have HN := Lib.hid hR
  have HFY := Lib.hid fy
  clear hm hR fy
  go_enter Try.func11, Try.ntmps11
  go_wp2_with fail
  generalize w.alloc (.cells #[.int .i64 k, .int .i64 a, .int .i64 o, .int .i64 n] 25) = w0 at *
  refine (clone_any A m c w0 (Now.below HN.out HB.out) hl).mono ?_
  rintro r w1 ⟨v, rfl, hv, hb1⟩
  obtain ⟨A1, c1, rfl, hc1, hN1⟩ := own_slice hv
  have HO := Lib.hid hv
  have hl0 : w.heap.size < w0.heap.size := lt_heap6' HR.out
  have hr1 := (hb1.block _ hl0).trans HR.out
  have q0 : w1.cell? ⟨w.heap.size, 0, none⟩ = some (.int .i64 k) := by rw [Lib.cell_of_heap hr1]; rfl
  have q1 : w1.cell? ⟨w.heap.size, 1, none⟩ = some (.int .i64 a) := by rw [Lib.cell_of_heap hr1]; rfl
  have q2 : w1.cell? ⟨w.heap.size, 2, none⟩ = some (.int .i64 o) := by rw [Lib.cell_of_heap hr1]; rfl
  have q3 : w1.cell? ⟨w.heap.size, 3, none⟩ = some (.int .i64 n) := by rw [Lib.cell_of_heap hr1]; rfl
  have HB1 := Lib.hid (Qt.more HB.out HB.out.size hb1)
  have hB1 : w0.heap.size ≤ w1.heap.size := hb1.size
  clear hv hN1 hb1 hr1
  go_wp2_with fail
  refine (wdo_any (k, a, o, n) m A1 c1 w1 HFY.out HM.out hB1 HO.out (by omega)).mono ?_
  rintro r w2 ⟨rfl, hO2, hg2⟩
  have hb2 : Below w0.heap.size w1 w2 := (Below.refl _ w1).grown hg2 hB1 (fun k e => (World.ownsRow.lt HO.out k e).1)
  have HB2 : Hid (Below w.heap.size w w2) := HB1.out.trans (hb2.mono HB.out.size)
  obtain ⟨d, hd⟩ : ∃ d, d = doA m (k, a, o, n) := ⟨_, rfl⟩
  rw [← hd] at hO2 ⊢
  have HO2 := Lib.hid hO2
  have HD := Lib.hid hd
  clear hg2 hO2 hd hb2 q0 q1 q2 q3
  have hlen : d.1.length = m.length := by rw [HD.out, doA_len]
  by_cases h0 : d.2.2.2 = 0
  · have HL := Lib.hid hlen
    have H0 := Lib.hid h0
    clear hlen h0
    have h0' : (d.2.2.2 != 0) = false := by rw [H0.out]; rfl
    go_wp2_with fail
    refine bodyPost_ret (results_tmp4 rfl _ _ _) rfl ?_
    obtain ⟨A2, c2, he, hc2, hN2⟩ := own_slice HO2.out
    show DoAns (doA m (k, a, o, n)) w _ _
    rw [← HD.out]
    refine ⟨A1, c1, ?_, by rw [HL.out]; exact hc1, ?_, HB2.out⟩
    · rw [H0.out, HL.out]; rfl
    · injection he with e1 e2 e3
      subst e1
      exact hN2
  · have hbad := doA_bad (show (doA m (k, a, o, n)).2.2.2 ≠ 0 by rw [← HD.out]; exact h0)
    rw [← HD.out] at hbad
    have HBD := Lib.hid hbad
    have h0' : (d.2.2.2 != 0) = true := by rw [bne_iff_ne]; exact h0
    clear hbad hlen h0
    go_wp2_with fail
    refine bodyPost_ret (results_tmp4 rfl _ _ _) rfl ?_
    show DoAns (doA m (k, a, o, n)) w _ _
    rw [← HD.out]
    refine ⟨A, c, ?_, ?_, ?_, HB2.out⟩
    · rw [HBD.out]; rfl
    · rw [HBD.out]; exact hc
    · rw [HBD.out]; exact Now.below HN.out HB2.out
end Go.Proofs.Ythfbcjbiemdedaa
