/-
  Texts that the claims of this seat share, part 11.
-/
import Derived.Test.YtocepdhjkhhpfaaB00
import Derived.Test.YtocepdhjkhhpfaaB07
import Derived.Test.YtocepdhjkhhpfaaB08
import Derived.Test.YtocepdhjkhhpfaaB10
set_option linter.unusedVariables false
set_option linter.unusedSimpArgs false
namespace Go.Proofs.Ytocepdhjkhhpfaa
set_option linter.unusedVariables false
open Go.RowKit Go.Sort

/-- A region that draws its order, by a script with calm operations, to what is known at its end. -/
theorem region_calm_to {P : Program} {id : Nat} {Q : Exit → Act → World → Prop} {a : Act} {w : World} {l : List Oper} (C : World → Prop) (R : Act → Act → World → Prop) (s : Qt.Scc) (hm : P.follows .mixedOrders = true) (hsel : Region.noSelect l.toArray = true)
    (hB : Qt.treeCB .any l.toArray s (Array.replicate l.toArray.size false) = true) (hlen : s.len = l.length) (hC : C w.drew)
    (h : Qt.treeCW P l.toArray C (R a) s a w.drew) (hQ : ∀ a' w', R a a' w' → Q .normal a' w') : (Code.region id l.toArray true).wp P Q a w :=
  Qt.region_calm C (R a) s hm hsel hB hlen hC h hQ
end Go.Proofs.Ytocepdhjkhhpfaa
namespace Go.Proofs.Ytocepdhjkhhpfaa
set_option maxRecDepth 100000
set_option linter.unusedVariables false
set_option linter.unusedSimpArgs false
open Go.RowKit Go.Sort

/-- the node that is spoken of is there -/
structure OkP (N : Int) (u : W8) : Prop where
  kid : u.pc = 1 → 0 ≤ u.r6 ∧ u.r6 < N
  own : u.pc = 13 ∨ u.pc = 31 → 1 ≤ u.r5 ∧ u.r5 ≤ N
theorem doA_far {m : List Int} {k o n : Int} (hl : m.length ≤ 100000) : (doA m (k, -1, o, n)).2.2.2 ≠ 0 := by
  unfold doA
  split
  · simp
  · rw [if_pos (.inl (by simp))]; simp
theorem okP_of {S N : Int} {m : List Int} {u : W8} (hl : m.length ≤ 100000) (h : (doA m (accP S N u)).2.2.2 = 0) : OkP N u := by
  refine ⟨fun e => ?_, fun e => ?_⟩
  · rw [accP_1 e] at h
    unfold kidP at h
    by_cases hc : u.r6 < 0 ∨ N ≤ u.r6
    · rw [if_pos hc] at h
      exact absurd h (doA_far hl)
    · omega
  · rcases e with e | e
    · have ha : accP S N u = (2, kidP S N (u.r5 - 1) u.r7, 0, kdH (kdW8 u) u.r7.toNat) := accP_13 e
      rw [ha] at h
      unfold kidP at h
      by_cases hc : u.r5 - 1 < 0 ∨ N ≤ u.r5 - 1
      · rw [if_pos hc] at h
        exact absurd h (doA_far hl)
      · omega
    · have ha : accP S N u = (2, insP (S + 4 * N + u.r5) (S + 4 * N + 1) (S + 4 * N + N), 0, hdH u.r6) := accP_31 e
      rw [ha] at h
      unfold insP at h
      by_cases hc : S + 4 * N + u.r5 < S + 4 * N + 1 ∨ S + 4 * N + N < S + 4 * N + u.r5
      · rw [if_pos hc] at h
        exact absurd h (doA_far hl)
      · omega
theorem Fit8.fine {S : Int} {u : W8} (h : Fit8 S u) : Fine4 (kdW8 u) := ⟨h.w0.i64, h.w1.i64, h.w2.i64, h.w3.i64⟩
theorem r5_wd {S : Int} {u : W8} (h : Fit8 S u) : WdI u.r5 := by have := h.r5; unfold WdI; omega
theorem r4_i64 {S : Int} {u : W8} (hS : S ≤ 4000) (h : Fit8 S u) : I64 u.r4 := by have := h.r4; unfold I64; omega
theorem acc_all8 (q : Nat) (hq : q < 10) {w : World} {b : Nat} {u : W8} {S N : Int} {sl mp : Value} (h : HaAt w b u S N sl mp) (hT : TabS S N) (hf : Fit8 S u) (hm : May8 S u) (ho : OkP N u) (hpc : u.pc = pcQ q) :
    Calls Try.prog (faQ q) #[.pointer (some ⟨b, 0, none⟩)] w (ValR (acV (accP S N u)) w) := by
  rcases ten_ways hq with rfl | rfl | rfl | rfl | rfl | rfl | rfl | rfl | rfl | rfl
  · rw [accP_0 hpc]; exact hLoadSlot_any h hT hf.fine (r4_i64 hT.s2 hf)
  · rw [accP_1 hpc]
    have := ho.kid hpc
    have hk := hm.kid (.inl hpc)
    have h7 := hf.r7
    unfold kidP
    rw [if_neg (by omega)]
    exact hLoadKid_any h hT this.1 this.2 h7 hk
  · rw [accP_10 hpc]; exact hLoadHead_any h hT
  · rw [accP_11 hpc]; exact hLoadNext_any h hT hf.w6
  · rw [accP_12 hpc]; exact hSwapOut_any h hT hf.w6 hf.w7
  · rw [accP_13 hpc]
    have := ho.own (.inl hpc)
    have hk := hm.kid (.inr hpc)
    have h7 := hf.r7
    unfold kidP
    rw [if_neg (by omega)]
    exact hStoreKid_any h hT this.1 this.2 h7 hk
  · rw [accP_20 hpc]; exact hSwapSlot_any h hT hf.fine (r4_i64 hT.s2 hf)
  · rw [accP_30 hpc]; exact hLoadHead_any h hT
  · rw [accP_31 hpc]
    have := ho.own (.inr hpc)
    unfold insP
    rw [if_neg (by omega)]
    exact hStoreNext_any h hT hf.w6 this.1 this.2
  · rw [accP_32 hpc]; exact hSwapIn_any h hT hf.w6 (r5_wd hf)
theorem then_all8 (q : Nat) (hq : q < 10) {w : World} {b : Nat} {u : W8} {S N : Int} {sl mp : Value} (h : HaAt w b u S N sl mp) (x : Int) (dn : Bool) (hx : WdI x) (hT : TabS S N) (hf : Fit8 S u) (hm : May8 S u) (hpc : u.pc = pcQ q) :
    Calls Try.prog (ftQ q) #[.pointer (some ⟨b, 0, none⟩), .int .i64 x, .bool dn] w (SetR8 b (behP S u x dn) S N sl mp w) := by
  rcases ten_ways hq with rfl | rfl | rfl | rfl | rfl | rfl | rfl | rfl | rfl | rfl
  · exact hSlotLoaded_any h x dn hx hpc
  · exact hKidLoaded_any h x dn hT.s1 hT.s2 hf.r4.1 (hm.slot (.inr (.inl hpc))) hpc hf.r7 (hm.kid (.inl hpc))
  · exact hTakeLoaded_any h x dn hx hpc
  · exact hNextLoaded_any h x dn hpc
  · exact hSwappedOut_any h x dn hf.w6 hpc
  · exact hKidStored_any h x dn hpc hf.r7 (hm.kid (.inr hpc))
  · exact hSlotSwapped_any h x dn hpc hf.r5
  · exact hGiveLoaded_any h x dn hpc
  · exact hNextStored_any h x dn hpc
  · exact hSwappedIn_any h x dn hpc
/-- what a step begins with -/
structure StepIn (w : World) (B b g : Nat) (u0 u : W8) (S N : Int) (m : List Int) (A : Option Addr) (c : Nat) : Prop where
  hat : HaAt w b u0 S N (.slice A m.length c) (.map (some g))
  map : Map8 w g b
  own : Own w B (.slice A m.length c) m
  hB : B ≤ b
  hg : B ≤ g
  tab : TabS S N
  fit : Fit8 S u
  may : May8 S u
  ok : (doA m (accP S N u)).2.2.2 = 0
  okP : OkP N u
  wd : ∀ x ∈ m, WdI x
  len : m.length ≤ 100000
/-- .. and ends with -/
def Step8R (B b g : Nat) (S N : Int) (sl : Value) (m1 : List Int) (u1 : W8) (w : World) (e : Ending) (w' : World) : Prop :=
  e = .returned (.tuple #[w8V u1, .int .i64 0]) ∧ HaAt w' b u1 S N sl (.map (some g)) ∧ Map8 w' g b ∧ Own w' B sl m1 ∧ Below B w w'
theorem accP_fine {S N : Int} {u : W8} (hT : TabS S N) (hf : Fit8 S u) (hm : May8 S u) : Fine4A (accP S N u) := by
  obtain ⟨s1, s2, n1, n2⟩ := hT
  obtain ⟨p1, p2, p3, p4⟩ := hm
  have hh := hdH_bd u.r6
  have hc := hdC_bd hf.w6.2
  have h7 := hf.r7
  have h5 := hf.r5
  have h6 := hf.w6
  have h7' := hf.w7
  have h4 := hf.r4
  have hsl : 0 ≤ slotP S u ∧ slotP S u ≤ 4000 := by
    unfold slotP slotH
    split
    · decide
    · have h1 := Int.emod_nonneg ((ofH (kdW8 u) : Int) + u.r4) (show S ≠ 0 by omega)
      have h2 := Int.emod_lt_of_pos ((ofH (kdW8 u) : Int) + u.r4) (show 0 < S by omega)
      omega
  have hkd : I64 (kdH (kdW8 u) u.r7.toNat) := by
    have f := hf.fine
    obtain ⟨f1, f2, f3, f4⟩ := f
    match u.r7.toNat with
    | 0 => exact f1
    | 1 => exact f2
    | 2 => exact f3
    | (n + 3) => exact f4
  unfold WdI at h6 h7'
  rcases p2 with e | e | e | e | e | e | e | e | e | e
  · rw [accP_0 e]; unfold Fine4A I64; simp only; omega
  · rw [accP_1 e]; have := p4 (.inl e); unfold Fine4A I64 kidP; simp only; split <;> omega
  · rw [accP_10 e]; unfold Fine4A I64; simp only; omega
  · rw [accP_11 e]; unfold Fine4A I64; simp only; omega
  · rw [accP_12 e]; unfold Fine4A I64; simp only; omega
  · rw [accP_13 e]; have := p4 (.inr e); unfold I64 at hkd; unfold Fine4A I64 kidP; simp only; split <;> omega
  · rw [accP_20 e]; unfold Fine4A I64; simp only; omega
  · rw [accP_30 e]; unfold Fine4A I64; simp only; omega
  · rw [accP_31 e]; unfold Fine4A I64 insP; simp only; split <;> omega
  · rw [accP_32 e]; unfold Fine4A I64; simp only; omega
theorem set12h (w : World) (b : Nat) (u0 u : W8) (S N : Int) (sl mp : Value) (h : HaAt w b u0 S N sl mp) :
    ∃ w', ((((((((((((w.setCell ⟨b, 0, none⟩ (.int .i64 u.pc)).setCell ⟨b, 1, none⟩ (.int .i64 u.job)).setCell ⟨b, 2, none⟩ (.int .i64 u.r0)).setCell ⟨b, 3, none⟩ (.int .i64 u.r1)).setCell ⟨b, 4, none⟩ (.int .i64 u.r2)).setCell ⟨b, 5, none⟩ (.int .i64 u.r3)).setCell ⟨b, 6, none⟩ (.int .i64 u.r4)).setCell ⟨b, 7, none⟩ (.int .i64 u.r5)).setCell ⟨b, 8, none⟩ (.int .i64 u.r6)).setCell ⟨b, 9, none⟩ (.int .i64 u.r7)).setCell ⟨b, 10, none⟩ (.bool u.done)).setCell ⟨b, 11, none⟩ (.int .i64 u.out)) = w' ∧ HaAt w' b u S N sl mp ∧ w'.heap.size = w.heap.size ∧ w.grownBy w' (some b) := by
  refine ⟨_, rfl, ⟨?_⟩, by simp [World.setCell], ?_⟩
  · have := h.row
    simp [World.setCell, Array.getElem?_modify, this]
  · exact ((((((((((((World.grownBy.refl w _).trans (grown_setCell _ _ _ _)).trans (grown_setCell _ _ _ _)).trans (grown_setCell _ _ _ _)).trans (grown_setCell _ _ _ _)).trans (grown_setCell _ _ _ _)).trans (grown_setCell _ _ _ _)).trans (grown_setCell _ _ _ _)).trans (grown_setCell _ _ _ _)).trans (grown_setCell _ _ _ _)).trans (grown_setCell _ _ _ _)).trans (grown_setCell _ _ _ _)).trans (grown_setCell _ _ _ _)
theorem set12o (w : World) (b : Nat) (u0 u : W8) (h : w.heap[b]? = some (.cells (w8A u0) 39 (0, 0))) :
    ∃ w', ((((((((((((w.setCell ⟨b, 0, none⟩ (.int .i64 u.pc)).setCell ⟨b, 1, none⟩ (.int .i64 u.job)).setCell ⟨b, 2, none⟩ (.int .i64 u.r0)).setCell ⟨b, 3, none⟩ (.int .i64 u.r1)).setCell ⟨b, 4, none⟩ (.int .i64 u.r2)).setCell ⟨b, 5, none⟩ (.int .i64 u.r3)).setCell ⟨b, 6, none⟩ (.int .i64 u.r4)).setCell ⟨b, 7, none⟩ (.int .i64 u.r5)).setCell ⟨b, 8, none⟩ (.int .i64 u.r6)).setCell ⟨b, 9, none⟩ (.int .i64 u.r7)).setCell ⟨b, 10, none⟩ (.bool u.done)).setCell ⟨b, 11, none⟩ (.int .i64 u.out)) = w' ∧ w'.heap[b]? = some (.cells (w8A u) 39 (0, 0)) ∧ w.grownBy w' (some b) := by
  refine ⟨_, rfl, ?_, ?_⟩
  · simp [World.setCell, Array.getElem?_modify, h]
  · exact ((((((((((((World.grownBy.refl w _).trans (grown_setCell _ _ _ _)).trans (grown_setCell _ _ _ _)).trans (grown_setCell _ _ _ _)).trans (grown_setCell _ _ _ _)).trans (grown_setCell _ _ _ _)).trans (grown_setCell _ _ _ _)).trans (grown_setCell _ _ _ _)).trans (grown_setCell _ _ _ _)).trans (grown_setCell _ _ _ _)).trans (grown_setCell _ _ _ _)).trans (grown_setCell _ _ _ _)).trans (grown_setCell _ _ _ _)
theorem Map8.lt {w : World} {g b : Nat} (h : Map8 w g b) : g < w.heap.size := by
  obtain ⟨es, cl, h1, h2⟩ := h
  exact lt_heap6' h1
/-- a block that is a map's is no hand's -/
theorem map_hand {w : World} {b g : Nat} {u : W8} {S N : Int} {sl mp : Value} (h : HaAt w b u S N sl mp) (hm : Map8 w g b) : g ≠ b := by
  rintro rfl
  obtain ⟨es, cl, h1, h2⟩ := hm
  have := h.row
  rw [h1] at this
  injection this with this
  cases this
/-- .. nor is a row of words -/
theorem own_hand {w : World} {b B : Nat} {u : W8} {S N : Int} {sl mp v : Value} {m : List Int} (h : HaAt w b u S N sl mp) (ho : Own w B v m) : v.ownBlock ≠ some b := by
  rcases ho.2 with ⟨rfl, _⟩ | ⟨x, cap, cur, rfl, _, hh, _⟩
  · simp [Value.ownBlock]
  · intro e
    obtain rfl : x = b := by simpa [Value.ownBlock] using e
    have := h.row
    rw [hh] at this
    injection this with this
    injection this with _ ht _
    exact absurd ht (by decide)
theorem own_map {w : World} {b g B : Nat} {v : Value} {m : List Int} (hm : Map8 w g b) (ho : Own w B v m) : some g ≠ v.ownBlock := by
  rcases ho.2 with ⟨rfl, _⟩ | ⟨x, cap, cur, rfl, _, hh, _⟩
  · simp [Value.ownBlock]
  · intro e
    obtain rfl : g = x := by simpa [Value.ownBlock] using e
    obtain ⟨es, cl, h1, h2⟩ := hm
    rw [hh] at h1
    injection h1 with h1
    cases h1
theorem hat_grown {w w' : World} {b : Nat} {u : W8} {S N : Int} {sl mp : Value} (h : HaAt w b u S N sl mp) {r : Option Nat} (hg : w.grownBy w' r) (hne : some b ≠ r) : HaAt w' b u S N sl mp := ⟨(hg.block b h.lt hne).trans h.row⟩
theorem below_grown {B : Nat} {w w1 w' : World} {r : Option Nat} (h : Below B w w1) (hg : w1.grownBy w' r) (hr : ∀ k, r = some k → B ≤ k) (hB : B ≤ w1.heap.size) : Below B w w' :=
  ⟨hg.os.trans h.os, hg.tape.trans h.tape, hg.output.trans h.output, Nat.le_trans h.size hg.size, fun k hk => (hg.block k (Nat.lt_of_lt_of_le hk hB) (fun e => by have := hr k e.symm; omega)).trans (h.block k hk)⟩
theorem own_ge {w : World} {B : Nat} {v : Value} {m : List Int} (ho : Own w B v m) : ∀ k, v.ownBlock = some k → B ≤ k := fun k e => (World.ownsRow.lt ho k e).1
theorem map_grown {w w' : World} {b g : Nat} (hm : Map8 w g b) {r : Option Nat} (hg : w.grownBy w' r) (hne : some g ≠ r) : Map8 w' g b := by
  obtain ⟨es, cl, h1, h2⟩ := hm
  exact ⟨es, cl, (hg.block g (lt_heap6' h1) hne).trans h1, h2⟩
/-- two more blocks -/
theorem two_allocs (w : World) (a b : Obj) : ∃ v, (w.alloc a).alloc b = v ∧ v.heap.size = w.heap.size + 2 ∧ v.heap[w.heap.size]? = some a ∧ v.heap[w.heap.size + 1]? = some b ∧ Below w.heap.size w v :=
  ⟨_, rfl, by simp, fresh1 _ _ _, fresh2 _ _ _, below2 _ _ _⟩
end Go.Proofs.Ytocepdhjkhhpfaa
