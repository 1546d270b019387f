/-
  Texts that the claims of this seat share, part 10.
-/
import Derived.Test.YtocepdhjkhhpfaaB06
import Derived.Test.YtocepdhjkhhpfaaB09
import Derived.Deep.RegionWith
import Derived.Test.YtocepdhjkhhpfaaB03
set_option linter.unusedVariables false
set_option linter.unusedSimpArgs false
namespace Go.Proofs.Ytocepdhjkhhpfaa
set_option maxRecDepth 100000
set_option linter.unusedVariables false
set_option linter.unusedSimpArgs false
open Go.RowKit Go.Sort

/-- numbers that a call makes -/
def NumsR (l : List Int) (w : World) (r : Ending) (w' : World) : Prop := ∃ v, r = .returned v ∧ Own w' w.heap.size v l ∧ Below w.heap.size w w'
def makeTo (n k : Nat) : List Int := (List.range k).map (fun i => ((i : Nat) : Int) + 1) ++ List.replicate (n + 1 - k) 0
def makeL (n : Nat) : List Int := makeTo n n
theorem makeTo_len {n k : Nat} (h : k ≤ n + 1) : (makeTo n k).length = n + 1 := by unfold makeTo; simp; omega
theorem makeL_len (n : Nat) : (makeL n).length = n + 1 := makeTo_len (by omega)
theorem makeTo_zero (n : Nat) : makeTo n 0 = List.replicate (n + 1) 0 := by simp [makeTo]
theorem makeTo_succ {n k : Nat} (h : k < n) : makeTo n (k + 1) = (makeTo n k).set k ((k : Int) + 1) := by
  unfold makeTo
  have hl : ((List.range k).map (fun i => ((i : Nat) : Int) + 1)).length = k := by simp
  rw [List.range_succ, List.map_append, List.set_append_right _ _ (by omega), hl, Nat.sub_self, show n + 1 - k = (n + 1 - (k + 1)) + 1 by omega, List.replicate_succ, List.set_cons_zero]
  simp
theorem makeTo_get {n k j : Nat} (h : j < k) : (makeTo n k).getD j 0 = (j : Int) + 1 := by
  unfold makeTo
  simp [List.getD_eq_getElem?_getD, List.getElem?_append, List.getElem?_map, List.getElem?_range, h]
theorem makeTo_last {n : Nat} : (makeTo n n).getD n 0 = 0 := by
  unfold makeTo
  simp [List.getD_eq_getElem?_getD, List.getElem?_append]
def lenV : Value → Nat | .slice _ n _ => n | _ => 0
/-- the nodes from h on, at most so many -/
def walkF (m : List Int) : Nat → Int → List Int
  | 0, _ => []
  | f + 1, h => if 0 < h ∧ h < m.length then (h - 1) :: walkF m f (m.getD h.toNat 0) else []
def freeL (m : List Int) : List Int := if 0 < m.length then walkF m 1000 (hdH (m.getD 0 0)) else []
set_option maxHeartbeats 4000000 in
theorem makeF_any (n : Nat) (hn : n ≤ 1000) (w : World) : Calls Try.prog 21 #[.int .i64 n] w (NumsR (makeL n) w) := by
  obtain ⟨w1, hmk, hof, hg⟩ := makeW (n + 1) (by omega) w
  have h0 : ¬ (n : Int) < 0 := by omega
  have h1 : ¬ (1000 : Int) < (n : Int) := by omega
  have hB := (Below.refl w.heap.size w).grown hg (Nat.le_refl _) (fun k e => by cases e)
  have HO := Lib.hid hof
  have HB := Lib.hid hB
  have hc : ((n + 1 : Nat) : Int) = (n : Int) + 1 := by omega
  rw [hc] at hmk
  clear hof hg hB hc
  go_enter Try.func21, Try.ntmps21
  go_wp2_with fail
  clear hmk
  go_loopw [15] (fun i wr => ∃ k : Nat, k ≤ n ∧ i = .int .i64 k ∧ Hid (Own wr w.heap.size (.slice (some ⟨w.heap.size, 0, none⟩) (n + 1) (n + 1)) (makeTo n k) ∧ Below w.heap.size w wr)) (fun i _ => n - (intOf i).toNat)
  case atStart => exact ⟨0, Nat.zero_le _, rfl, (show Hid _ from ⟨by rw [makeTo_zero]; exact HO.out, HB.out⟩)⟩
  case round =>
    obtain ⟨k, hk, rfl, HH⟩ := hrel
    have hlen := makeTo_len (n := n) (k := k) (by omega)
    by_cases hlt : k < n
    · have hltz : (k : Int) < (n : Int) := by omega
      obtain ⟨h2, h3⟩ := HH.out
      obtain ⟨g', hg', -, -, hfz, hce⟩ := own_row (l := makeTo n k) (A := some ⟨w.heap.size, 0, none⟩) (c := n + 1) (by rw [hlen]; exact h2) (by omega)
      injection hg' with hg'
      injection hg' with hg'
      subst hg'
      have z0 := hce k (by omega)
      have z1 := hfz k
      obtain ⟨old, hold⟩ : ∃ old, old = (makeTo n k).getD k 0 := ⟨_, rfl⟩
      rw [← hold] at z0
      have HLn := Lib.hid hlen
      clear h2 h3 hfz hce hold hlen
      go_wp2_with fail
      go_roundw
      case measure => simp [intOf]; omega
      case rel =>
        refine ⟨k + 1, by omega, by go_num, (show Hid _ from ?_)⟩
        obtain ⟨h2, h3⟩ := HH.out
        obtain ⟨s1, s2⟩ := own_set (l := makeTo n k) (c := n + 1) (by rw [HLn.out]; exact h2) k ((k : Int) + 1)
        rw [HLn.out] at s1
        rw [makeTo_succ hlt]
        exact ⟨s1, h3.grown s2 h3.size (fun q e => by injection e with e; omega)⟩
    · obtain rfl : k = n := by omega
      have hltz : ¬ (k : Int) < (k : Int) := by omega
      clear hlen
      go_wp2
      go_ret
      exact ⟨_, rfl, HH.out.1, HH.out.2⟩
set_option maxHeartbeats 4000000 in
theorem freeF_any (A : Option Addr) (m : List Int) (c : Nat) (w : World) (hR : Now w A m) (hl : m.length ≤ 1000000) (hm : ∀ x ∈ m, WdI x) :
    Calls Try.prog 22 #[.slice A m.length c, .int .i64 0] w (NumsR (freeL m) w) := by
  by_cases h0 : m.length = 0
  · have hz : (m.length : Int) ≤ 0 := by omega
    have he : freeL m = [] := by unfold freeL; rw [if_neg (by omega)]
    rw [he]
    clear hR
    go_enter Try.func22, Try.ntmps22
    go_wp2_with fail
    go_ret
    exact ⟨_, rfl, World.ownsRow_nil _ _ _ _, Below.refl _ _⟩
  · have hz : ¬ (m.length : Int) ≤ 0 := by omega
    obtain ⟨R, hRR⟩ : ∃ R, R = freeL m := ⟨_, rfl⟩
    rw [← hRR]
    unfold freeL at hRR
    rw [if_pos (by omega)] at hRR
    obtain ⟨b, off, rfl, hb, hcell⟩ := Rd.at_ hR (by omega)
    have y0 := hcell 0 (by omega)
    have hw0 : WdI (m.getD 0 0) := by rw [List.getD_eq_getElem?_getD, List.getElem?_eq_getElem (by omega)]; exact hm _ (List.getElem_mem _)
    have hs := split_any (m.getD 0 0) w hw0.i64
    obtain ⟨x, hx⟩ : ∃ x, x = m.getD 0 0 := ⟨_, rfl⟩
    rw [← hx] at y0 hs hRR
    obtain ⟨h, hh⟩ : ∃ h, h = hdH x := ⟨_, rfl⟩
    have hbd := hdH_bd x
    rw [← hh] at hbd hs hRR
    have HRR := Lib.hid hRR
    have HC := Lib.hid hcell
    have HM := Lib.hid hm
    rw [Nat.add_zero] at y0
    clear hRR hcell hm hR hx hh hw0
    go_enter Try.func22, Try.ntmps22
    go_wp2_with fail
    refine hs.mono ?_
    rintro e w1 ⟨rfl, rfl⟩
    clear hs y0
    go_wp2_with fail
    go_loopw [5, 7] (fun v i wr => ∃ (acc : List Int) (h : Int), i = .int .i64 h ∧ Hid (Own wr w.heap.size v acc ∧ Below w.heap.size w wr ∧ acc ++ walkF m (1000 - acc.length) h = R ∧ acc.length ≤ 1000 ∧ I64 h)) (fun v _ _ => 1000 - lenV v)
    case atStart => exact ⟨[], h, rfl, (show Hid _ from ⟨World.ownsRow_nil _ _ _ _, Below.refl _ _, HRR.out.symm, by simp, by unfold I64; omega⟩)⟩
    case round =>
      obtain ⟨acc, h, rfl, HH⟩ := hrel
      obtain ⟨hO, hB, hrest, hal, hi1, hi2⟩ := HH.out
      obtain ⟨A2, c2, rfl, hc2, _⟩ := own_slice hO
      by_cases hp : 0 < h ∧ h < (m.length : Int) ∧ acc.length < 1000
      · obtain ⟨p1, p2, p3⟩ := hp
        obtain ⟨u, rfl⟩ : ∃ u : Nat, h = u := ⟨h.toNat, by omega⟩
        have hu : u < m.length := by omega
        have y0 := HC.out u hu
        have y1 := (hB.cell (p := ⟨b, off + u, none⟩) hb).trans y0
        rw [show 1000 - acc.length = (1000 - (acc.length + 1)) + 1 by omega] at hrest
        unfold walkF at hrest
        rw [if_pos ⟨p1, p2⟩, Int.toNat_natCast] at hrest
        have hwd : WdI (m.getD u 0) := by rw [List.getD_eq_getElem?_getD, List.getElem?_eq_getElem hu]; exact HM.out _ (List.getElem_mem _)
        obtain ⟨z, hz2⟩ : ∃ z, z = m.getD u 0 := ⟨_, rfl⟩
        rw [← hz2] at y0 y1 hrest hwd
        obtain ⟨v', w2, hrun, hO2, hg2⟩ := pushW_any ((u : Int) - 1) hB.size hO (by omega)
        have hlt1 := fun k e => (World.ownsRow.lt hO k e).1
        have hB2 := hB.grown hg2 hB.size hlt1
        have y2 := (hB2.cell (p := ⟨b, off + u, none⟩) hb).trans ((hB.cell (p := ⟨b, off + u, none⟩) hb).symm.trans y1)
        have HRun := Lib.hid hrun
        have HN := Lib.hid (And.intro hO2 (And.intro hB2 (And.intro hrest hwd)))
        have pz : (acc.length : Int) < 1000 := by omega
        clear hrun hO2 hg2 hB2 hrest hwd hO hB HH hz2 y0 y1 hlt1 hal hi1 hi2
        go_wp2_with (at_builtin; refine Lib.wpList_append_run _ rfl (.tmp 39) (.tmp 42) 23 23 rfl _ _ rfl rfl _ _ HRun.out ?_)
        go_roundw
        case measure =>
          obtain ⟨A3, c3, he, _, _⟩ := own_slice HN.out.1
          rw [he]
          show 1000 - (acc ++ [(u : Int) - 1]).length < 1000 - acc.length
          rw [List.length_append, List.length_singleton]
          omega
        case rel =>
          obtain ⟨n1, n2, n3, n4⟩ := HN.out
          refine ⟨acc ++ [(u : Int) - 1], z, rfl, (show Hid _ from ⟨n1, n2, ?_, by rw [List.length_append, List.length_singleton]; omega, n4.i64⟩)⟩
          rw [List.length_append, List.length_singleton, List.append_assoc]
          exact n3
      · have hfin : acc = R := by
          rw [← hrest]
          have : walkF m (1000 - acc.length) h = [] := by
            by_cases h3 : acc.length < 1000
            · rw [show 1000 - acc.length = (1000 - (acc.length + 1)) + 1 by omega]
              unfold walkF
              rw [if_neg (by omega)]
            · rw [show 1000 - acc.length = 0 by omega]; rfl
          rw [this, List.append_nil]
        have HFin := Lib.hid hfin
        have HE := Lib.hid (And.intro hO hB)
        clear hrest hfin hO hB HH
        by_cases p1 : 0 < h
        · by_cases p2 : h < (m.length : Int)
          · have p3 : ¬ (acc.length : Int) < 1000 := by omega
            clear hp
            go_wp2
            go_ret
            exact ⟨_, rfl, by rw [← HFin.out]; exact HE.out.1, HE.out.2⟩
          · clear hp
            go_wp2
            go_ret
            exact ⟨_, rfl, by rw [← HFin.out]; exact HE.out.1, HE.out.2⟩
        · clear hp
          go_wp2
          go_ret
          exact ⟨_, rfl, by rw [← HFin.out]; exact HE.out.1, HE.out.2⟩
end Go.Proofs.Ytocepdhjkhhpfaa
namespace Go.Proofs.Ytocepdhjkhhpfaa
set_option maxRecDepth 100000
set_option linter.unusedVariables false
set_option linter.unusedSimpArgs false
open Go.RowKit Go.Sort

theorem fresh4r (w : World) (a b c d : Obj) : ((((w.alloc a).alloc b).alloc c).alloc d).heap[w.heap.size + 1 + 1]? = some c :=
  (Lib.alloc_old _ _ _ (by simp)).trans (by
    have h := heap_alloc_new ((w.alloc a).alloc b) c
    rwa [show ((w.alloc a).alloc b).heap.size = w.heap.size + 1 + 1 by simp] at h)
set_option maxHeartbeats 4000000 in
/-- a worker of no job -/
theorem stepL_zero (at0 : Int) (m : List Int) (A : Option Addr) (c b : Nat) (w : World) {B : Nat} (hB : B ≤ w.heap.size) (hO : Own w B (.slice A m.length c) m) (hM : MapOk w b) :
    Calls Try.prog 41 #[liV A m.length c at0 b, wkV deadW] w (StepR B (.slice A m.length c) (m, deadW, 1) w) := by
  have hlook := (mapOk_below hM ((((Below.refl w.heap.size w).alloc (Nat.le_refl _) (.cells #[.slice A m.length c, .int .i64 at0, .map (some b)] 68)).alloc (by simp) (.cells (wkA deadW) 39)).alloc (by simp; omega) (.cells (wkA deadW) 39))).get0
  simp only [keyW] at hlook
  have hsf : ∀ (a : Addr) (W : World), (store a .nilFunc).run Try.prog W = stored Try.prog W a .nilFunc .plain := fun a W => run_store _ W a _ _ rfl
  have HO := Lib.hid hO
  clear hO hM
  unfold deadW at hlook ⊢
  go_enter Try.func41, Try.ntmps41
  go_wp2_with fail
  have h4 := fresh4r w (.cells #[.slice A m.length c, .int .i64 at0, .map (some b)] 68) (.cells (wkA deadW) 39) (.cells (wkA deadW) 39) (.cells #[.nilFunc, .nilFunc] 93)
  have hb4 := below4 w (.cells #[.slice A m.length c, .int .i64 at0, .map (some b)] 68) (.cells (wkA deadW) 39) (.cells (wkA deadW) 39) (.cells #[.nilFunc, .nilFunc] 93)
  refine bodyPost_ret (results_cellT rfl _ _ (w.heap.size + 1 + 1) _ _ _ _ rfl h4 Try.underlying39 rfl (by kernel_rfl)) rfl ?_
  exact ⟨rfl, own_next HO.out hb4, grown_below hb4 _⟩
/-- what Step answers -/
def StepAns (d : List Int × Wk × Int) (w : World) (r : Ending) (w' : World) : Prop :=
  ∃ A2 c2, r = .returned (.tuple #[.slice A2 d.1.length c2, wkV d.2.1, .int .i64 d.2.2]) ∧ Own w' w.heap.size (.slice A2 d.1.length c2) d.1 ∧ Below w.heap.size w w'
theorem results_mid {P : Program} {fn : Func} {t p u : Tmp} {ty : TypeId} (h : fn.results = #[.tmp t, .cell p ty, .tmp u]) (tmps : Array Value) (w : World) (g : Nat) (tt : TypeId) (cs : Array Value) (fr : Nat × Nat) (d : TypeDesc)
    (hp : tmps.getD p undef = .pointer (some ⟨g, 0, none⟩)) (hg : w.heap[g]? = some (.cells cs tt fr))
    (hu : P.underlying ty = some d) (hd : (match d with | .struct _ | .array _ _ => true | _ => false) = true) (hi : (P.info? ty).map (·.size) = some cs.size) :
    (results fn tmps).run P w = .ok (.tuple #[tmps.getD t undef, .agg cs, tmps.getD u undef]) w := by
  have hp' : tmps[p]?.getD undef = .pointer (some ⟨g, 0, none⟩) := by simpa using hp
  simp [results, h, hp', asAddr, run_loadVar_row w g tt ty cs fr d hg hu hd hi]
set_option maxHeartbeats 8000000 in
theorem stepG_any (x : Wk) (at0 : Int) (m : List Int) (d : List Int × Wk × Int) (A : Option Addr) (c : Nat) (w : World) (hR : Now w A m) (hl : m.length ≤ 1000000) (hd : d.1.length = m.length)
    (hst : ∀ (A1 : Option Addr) (c1 b B : Nat) (W : World), B ≤ W.heap.size → Own W B (.slice A1 m.length c1) m → MapOk W b → Calls Try.prog 41 #[liV A1 m.length c1 at0 b, wkV x] W (StepR B (.slice A1 m.length c1) d W)) :
    Calls Try.prog 25 #[.slice A m.length c, .int .i64 at0, wkV x] w (StepAns d w) := by
  have hb0 := below2 w (.cells (wkA x) 39) (.cells (wkA deadW) 39)
  have hr0 := fresh1 w (.cells (wkA x) 39) (.cells (wkA deadW) 39)
  have hr1 := fresh2 w (.cells (wkA x) 39) (.cells (wkA deadW) 39)
  have hs0 : ((w.alloc (.cells (wkA x) 39)).alloc (.cells (wkA deadW) 39)).heap.size = w.heap.size + 2 := by simp
  obtain ⟨w1, hw1⟩ : ∃ w1, (w.alloc (.cells (wkA x) 39)).alloc (.cells (wkA deadW) 39) = w1 := ⟨_, rfl⟩
  rw [hw1] at hb0 hr0 hr1 hs0
  have hli := listOf_any m A c at0 w1 (Now.below hR hb0) hl
  have HW1 := Lib.hid hw1
  have HB0 := Lib.hid hb0
  have HR0 := Lib.hid hr0
  have HR1 := Lib.hid hr1
  have HST := Lib.hid hst
  have HD := Lib.hid hd
  unfold deadW at HW1
  clear hw1 hb0 hr0 hr1 hst hR hd
  go_enter Try.func25, Try.ntmps25
  go_wp2_with (rw [HW1.out])
  refine hli.mono ?_
  rintro e w2 ⟨A1, c1, b, rfl, hO2, hM2, hb2, hB2⟩
  have hal := (Below.refl w2.heap.size w2).alloc (Nat.le_refl _) (.cells #[.slice A1 m.length c1, .int .i64 at0, .map (some b)] 68)
  have hrow := heap_alloc_new w2 (.cells #[.slice A1 m.length c1, .int .i64 at0, .map (some b)] 68)
  have hsz : (w2.alloc (.cells #[.slice A1 m.length c1, .int .i64 at0, .map (some b)] 68)).heap.size = w2.heap.size + 1 := by simp
  obtain ⟨w3, hw3⟩ : ∃ w3, w2.alloc (.cells #[.slice A1 m.length c1, .int .i64 at0, .map (some b)] 68) = w3 := ⟨_, rfl⟩
  rw [hw3] at hal hrow hsz
  have hs2 := hB2.size
  have hO3 := own_next hO2 hal
  have hM3 := mapOk_below hM2 hal
  have r0 := (hal.block w.heap.size (by omega)).trans ((hB2.block w.heap.size (by omega)).trans HR0.out)
  have r1 := (hal.block (w.heap.size + 1) (by omega)).trans ((hB2.block (w.heap.size + 1) (by omega)).trans HR1.out)
  have hB3 := Qt.more (Qt.more HB0.out (by omega) hB2) (by omega) hal
  have hcall := HST.out A1 c1 b w1.heap.size w3 (by omega) hO3 hM3
  have l0 : w3.cell? ⟨w2.heap.size, 0, none⟩ = some (.slice A1 m.length c1) := by rw [Lib.cell_of_heap hrow]; rfl
  have l1 : w3.cell? ⟨w2.heap.size, 1, none⟩ = some (.int .i64 at0) := by rw [Lib.cell_of_heap hrow]; rfl
  have l2 : w3.cell? ⟨w2.heap.size, 2, none⟩ = some (.map (some b)) := by rw [Lib.cell_of_heap hrow]; rfl
  have a0 : w3.cell? ⟨w.heap.size, 0, none⟩ = some (.int .i64 x.pc) := by rw [Lib.cell_of_heap r0]; rfl
  have a1 : w3.cell? ⟨w.heap.size, 1, none⟩ = some (.int .i64 x.job) := by rw [Lib.cell_of_heap r0]; rfl
  have a2 : w3.cell? ⟨w.heap.size, 2, none⟩ = some (.int .i64 x.r0) := by rw [Lib.cell_of_heap r0]; rfl
  have a3 : w3.cell? ⟨w.heap.size, 3, none⟩ = some (.int .i64 x.r1) := by rw [Lib.cell_of_heap r0]; rfl
  have a4 : w3.cell? ⟨w.heap.size, 4, none⟩ = some (.int .i64 x.r2) := by rw [Lib.cell_of_heap r0]; rfl
  have a5 : w3.cell? ⟨w.heap.size, 5, none⟩ = some (.int .i64 0) := by rw [Lib.cell_of_heap r0]; rfl
  have a6 : w3.cell? ⟨w.heap.size, 6, none⟩ = some (.int .i64 0) := by rw [Lib.cell_of_heap r0]; rfl
  have a7 : w3.cell? ⟨w.heap.size, 7, none⟩ = some (.int .i64 0) := by rw [Lib.cell_of_heap r0]; rfl
  have a8 : w3.cell? ⟨w.heap.size, 8, none⟩ = some (.int .i64 0) := by rw [Lib.cell_of_heap r0]; rfl
  have a9 : w3.cell? ⟨w.heap.size, 9, none⟩ = some (.int .i64 0) := by rw [Lib.cell_of_heap r0]; rfl
  have a10 : w3.cell? ⟨w.heap.size, 10, none⟩ = some (.bool x.done) := by rw [Lib.cell_of_heap r0]; rfl
  have a11 : w3.cell? ⟨w.heap.size, 11, none⟩ = some (.int .i64 x.out) := by rw [Lib.cell_of_heap r0]; rfl
  have HW3 := Lib.hid hw3
  have HN := Lib.hid (And.intro hrow (And.intro r1 (And.intro hB3 hO3)))
  have HS := Lib.hid (And.intro hs0 (And.intro hs2 hsz))
  have HO2 := Lib.hid hO2
  clear hli hO2 hM2 hb2 hB2 hal hrow hsz hw3 hO3 hM3 r0 r1 hB3 hs2
  go_wp2_with (rw [HW3.out])
  refine hcall.mono ?_
  rintro e w4 ⟨rfl, hO4, hg4⟩
  obtain ⟨dm, u, de⟩ := d
  simp only at HD hO4 ⊢
  have hs4 := hg4.size
  obtain ⟨hs0', hs2', hsz'⟩ := HS.out
  have HG4 : Hid (∀ k o, w3.heap[k]? = some o → (Value.slice A1 m.length c1).ownBlock ≠ some k → w4.heap[k]? = some o) := fun k o h hne => (hg4.block k (lt_heap6' h) (fun e => hne e.symm)).trans h
  have hne2 : (Value.slice A1 m.length c1).ownBlock ≠ some w2.heap.size := fun e => by have := (World.ownsRow.lt HN.out.2.2.2 w2.heap.size e).1; have := (World.ownsRow.lt HO2.out w2.heap.size e).2; omega
  have hne1 : (Value.slice A1 m.length c1).ownBlock ≠ some (w.heap.size + 1) := fun e => by have := (World.ownsRow.lt HN.out.2.2.2 (w.heap.size + 1) e).1; omega
  have ra := HG4.out _ _ HN.out.1 hne2
  have rb := HG4.out _ _ HN.out.2.1 hne1
  have hB4 : Below w.heap.size w w4 := HN.out.2.2.1.grown hg4 HN.out.2.2.1.size (fun k e => by have := (World.ownsRow.lt HN.out.2.2.2 k e).1; omega)
  have hal := (Below.refl w4.heap.size w4).alloc (Nat.le_refl _) (.cells (wkA u) 39)
  have hrow := heap_alloc_new w4 (.cells (wkA u) 39)
  obtain ⟨w5, hw5⟩ : ∃ w5, w4.alloc (.cells (wkA u) 39) = w5 := ⟨_, rfl⟩
  rw [hw5] at hal hrow
  have ra5 := (hal.block _ (lt_heap6' ra)).trans ra
  have rb5 := (hal.block _ (lt_heap6' rb)).trans rb
  have hB5 := Qt.more hB4 hB4.size hal
  have hO5 := own_next hO4 hal
  have HW5 := Lib.hid hw5
  have HM := Lib.hid (And.intro ra5 (And.intro rb5 (And.intro hrow (And.intro hB5 hO5))))
  clear hcall l0 l1 l2 a0 a1 a2 a3 a4 a5 a6 a7 a8 a9 a10 a11 hO4 hg4 HG4 hne2 hne1 ra rb hB4 hal hrow hw5 ra5 rb5 hB5 hO5
  have F0 : ∀ W : World, (W.heap[w2.heap.size]? = some (.cells #[.slice A1 m.length c1, .int .i64 at0, .map (some b)] 68 (0, 0)) ∧ W.heap[w4.heap.size]? = some (.cells (wkA u) 39 (0, 0))) → W.cell? ⟨w2.heap.size, 0, none⟩ = some (.slice A1 m.length c1) := fun W h => by rw [Lib.cell_of_heap h.1]; rfl
  have G0 : ∀ W : World, (W.heap[w2.heap.size]? = some (.cells #[.slice A1 m.length c1, .int .i64 at0, .map (some b)] 68 (0, 0)) ∧ W.heap[w4.heap.size]? = some (.cells (wkA u) 39 (0, 0))) → W.cell? ⟨w4.heap.size, 0, none⟩ = some (.int .i64 u.pc) := fun W h => by rw [Lib.cell_of_heap h.2]; rfl
  have G1 : ∀ W : World, (W.heap[w2.heap.size]? = some (.cells #[.slice A1 m.length c1, .int .i64 at0, .map (some b)] 68 (0, 0)) ∧ W.heap[w4.heap.size]? = some (.cells (wkA u) 39 (0, 0))) → W.cell? ⟨w4.heap.size, 1, none⟩ = some (.int .i64 u.job) := fun W h => by rw [Lib.cell_of_heap h.2]; rfl
  have G2 : ∀ W : World, (W.heap[w2.heap.size]? = some (.cells #[.slice A1 m.length c1, .int .i64 at0, .map (some b)] 68 (0, 0)) ∧ W.heap[w4.heap.size]? = some (.cells (wkA u) 39 (0, 0))) → W.cell? ⟨w4.heap.size, 2, none⟩ = some (.int .i64 u.r0) := fun W h => by rw [Lib.cell_of_heap h.2]; rfl
  have G3 : ∀ W : World, (W.heap[w2.heap.size]? = some (.cells #[.slice A1 m.length c1, .int .i64 at0, .map (some b)] 68 (0, 0)) ∧ W.heap[w4.heap.size]? = some (.cells (wkA u) 39 (0, 0))) → W.cell? ⟨w4.heap.size, 3, none⟩ = some (.int .i64 u.r1) := fun W h => by rw [Lib.cell_of_heap h.2]; rfl
  have G4 : ∀ W : World, (W.heap[w2.heap.size]? = some (.cells #[.slice A1 m.length c1, .int .i64 at0, .map (some b)] 68 (0, 0)) ∧ W.heap[w4.heap.size]? = some (.cells (wkA u) 39 (0, 0))) → W.cell? ⟨w4.heap.size, 4, none⟩ = some (.int .i64 u.r2) := fun W h => by rw [Lib.cell_of_heap h.2]; rfl
  have G5 : ∀ W : World, (W.heap[w2.heap.size]? = some (.cells #[.slice A1 m.length c1, .int .i64 at0, .map (some b)] 68 (0, 0)) ∧ W.heap[w4.heap.size]? = some (.cells (wkA u) 39 (0, 0))) → W.cell? ⟨w4.heap.size, 5, none⟩ = some (.int .i64 0) := fun W h => by rw [Lib.cell_of_heap h.2]; rfl
  have G6 : ∀ W : World, (W.heap[w2.heap.size]? = some (.cells #[.slice A1 m.length c1, .int .i64 at0, .map (some b)] 68 (0, 0)) ∧ W.heap[w4.heap.size]? = some (.cells (wkA u) 39 (0, 0))) → W.cell? ⟨w4.heap.size, 6, none⟩ = some (.int .i64 0) := fun W h => by rw [Lib.cell_of_heap h.2]; rfl
  have G7 : ∀ W : World, (W.heap[w2.heap.size]? = some (.cells #[.slice A1 m.length c1, .int .i64 at0, .map (some b)] 68 (0, 0)) ∧ W.heap[w4.heap.size]? = some (.cells (wkA u) 39 (0, 0))) → W.cell? ⟨w4.heap.size, 7, none⟩ = some (.int .i64 0) := fun W h => by rw [Lib.cell_of_heap h.2]; rfl
  have G8 : ∀ W : World, (W.heap[w2.heap.size]? = some (.cells #[.slice A1 m.length c1, .int .i64 at0, .map (some b)] 68 (0, 0)) ∧ W.heap[w4.heap.size]? = some (.cells (wkA u) 39 (0, 0))) → W.cell? ⟨w4.heap.size, 8, none⟩ = some (.int .i64 0) := fun W h => by rw [Lib.cell_of_heap h.2]; rfl
  have G9 : ∀ W : World, (W.heap[w2.heap.size]? = some (.cells #[.slice A1 m.length c1, .int .i64 at0, .map (some b)] 68 (0, 0)) ∧ W.heap[w4.heap.size]? = some (.cells (wkA u) 39 (0, 0))) → W.cell? ⟨w4.heap.size, 9, none⟩ = some (.int .i64 0) := fun W h => by rw [Lib.cell_of_heap h.2]; rfl
  have G10 : ∀ W : World, (W.heap[w2.heap.size]? = some (.cells #[.slice A1 m.length c1, .int .i64 at0, .map (some b)] 68 (0, 0)) ∧ W.heap[w4.heap.size]? = some (.cells (wkA u) 39 (0, 0))) → W.cell? ⟨w4.heap.size, 10, none⟩ = some (.bool u.done) := fun W h => by rw [Lib.cell_of_heap h.2]; rfl
  have G11 : ∀ W : World, (W.heap[w2.heap.size]? = some (.cells #[.slice A1 m.length c1, .int .i64 at0, .map (some b)] 68 (0, 0)) ∧ W.heap[w4.heap.size]? = some (.cells (wkA u) 39 (0, 0))) → W.cell? ⟨w4.heap.size, 11, none⟩ = some (.int .i64 u.out) := fun W h => by rw [Lib.cell_of_heap h.2]; rfl
  have HG := Lib.hid (fun W h => (⟨F0 W h, G0 W h, G1 W h, G2 W h, G3 W h, G4 W h, G5 W h, G6 W h, G7 W h, G8 W h, G9 W h, G10 W h, G11 W h⟩ : _ ∧ _ ∧ _ ∧ _ ∧ _ ∧ _ ∧ _ ∧ _ ∧ _ ∧ _ ∧ _ ∧ _ ∧ _))
  clear F0 G0 G1 G2 G3 G4 G5 G6 G7 G8 G9 G10 G11
  go_wp2_with (rw [HW5.out])
  refine region_calm_to (fun W => W.heap[w2.heap.size]? = some (.cells #[.slice A1 m.length c1, .int .i64 at0, .map (some b)] 68 (0, 0)) ∧ W.heap[w4.heap.size]? = some (.cells (wkA u) 39 (0, 0)))
    (fun (a0 a9 : Act) (w9 : World) => a9 = (((((((a0.put (some 21) (.pointer (some ⟨w2.heap.size, 0, none⟩))).put (some 22) (.slice A1 m.length c1)).put (some 23) (.agg #[.int .i64 u.pc, .int .i64 u.job, .int .i64 u.r0, .int .i64 u.r1, .int .i64 u.r2, .int .i64 0, .int .i64 0, .int .i64 0, .int .i64 0, .int .i64 0, .bool u.done, .int .i64 u.out])).put (some 24) (.int .i64 de)).put (some 6) (.slice A1 m.length c1)).put none undef).put (some 8) (.int .i64 de)) ∧ w9.heap[w.heap.size + 1]? = some (.cells (wkA u) 39 (0, 0)) ∧ w5.grownBy w9 (some (w.heap.size + 1)))
    (.calm 0 (.calm 1 (.calm 2 (.calm 3 (.only 4 (.only 5 (.only 6 .done))))))) (by kernel_rfl) (by kernel_rfl) (by kernel_rfl) (by rfl) ⟨HM.out.1, HM.out.2.2.1⟩ ?_ ?_
  · skip
    refine ⟨_, _, .pointer (some ⟨w2.heap.size, 0, none⟩), rfl, rfl, ⟨rfl, fun W hW => by first | exact ⟨rfl, rfl⟩ | (simp only [Act.eval, execOp]; go_simp; try exact ⟨rfl, rfl⟩)⟩, ?_⟩
    simp only [Act.put, List.setIfInBounds_toArray, List.set_cons_succ, List.set_cons_zero]
    refine ⟨_, _, .slice A1 m.length c1, rfl, rfl, ⟨rfl, fun W hW => by obtain ⟨f0, -⟩ := HG.out W hW; simp only [Act.eval, execOp]; go_simp; done⟩, ?_⟩
    simp only [Act.put, List.setIfInBounds_toArray, List.set_cons_succ, List.set_cons_zero]
    refine ⟨_, _, .agg #[.int .i64 u.pc, .int .i64 u.job, .int .i64 u.r0, .int .i64 u.r1, .int .i64 u.r2, .int .i64 0, .int .i64 0, .int .i64 0, .int .i64 0, .int .i64 0, .bool u.done, .int .i64 u.out], rfl, rfl, ⟨rfl, fun W hW => by obtain ⟨-, f0, f1, f2, f3, f4, f5, f6, f7, f8, f9, f10, f11⟩ := HG.out W hW; simp only [Act.eval, execOp]; go_simp; done⟩, ?_⟩
    simp only [Act.put, List.setIfInBounds_toArray, List.set_cons_succ, List.set_cons_zero]
    refine ⟨_, _, .int .i64 de, rfl, rfl, ⟨rfl, fun W hW => by first | exact ⟨rfl, rfl⟩ | (simp only [Act.eval, execOp]; go_simp; try exact ⟨rfl, rfl⟩)⟩, ?_⟩
    simp only [Act.put, List.setIfInBounds_toArray, List.set_cons_succ, List.set_cons_zero]
    refine ⟨_, rfl, ?_⟩
    have hcd : w5.drew.heap[w2.heap.size]? = some (.cells #[.slice A1 m.length c1, .int .i64 at0, .map (some b)] 68 (0, 0)) ∧ w5.drew.heap[w4.heap.size]? = some (.cells (wkA u) 39 (0, 0)) := ⟨HM.out.1, HM.out.2.2.1⟩
    have hrd : w5.drew.heap[w.heap.size + 1]? = some (.cells (wkA deadW) 39 (0, 0)) := HM.out.2.1
    have hgd : w5.grownBy w5.drew (some (w.heap.size + 1)) := ⟨rfl, rfl, rfl, Nat.le_refl _, fun _ _ _ => rfl⟩
    generalize w5.drew = v5 at *
    have b0 : v5.cell? ⟨w.heap.size + 1, 0, none⟩ = some (.int .i64 0) := by rw [Lib.cell_of_heap hrd]; rfl
    have b1 : v5.cell? ⟨w.heap.size + 1, 1, none⟩ = some (.int .i64 0) := by rw [Lib.cell_of_heap hrd]; rfl
    have b2 : v5.cell? ⟨w.heap.size + 1, 2, none⟩ = some (.int .i64 0) := by rw [Lib.cell_of_heap hrd]; rfl
    have b3 : v5.cell? ⟨w.heap.size + 1, 3, none⟩ = some (.int .i64 0) := by rw [Lib.cell_of_heap hrd]; rfl
    have b4 : v5.cell? ⟨w.heap.size + 1, 4, none⟩ = some (.int .i64 0) := by rw [Lib.cell_of_heap hrd]; rfl
    have b5 : v5.cell? ⟨w.heap.size + 1, 5, none⟩ = some (.int .i64 0) := by rw [Lib.cell_of_heap hrd]; rfl
    have b6 : v5.cell? ⟨w.heap.size + 1, 6, none⟩ = some (.int .i64 0) := by rw [Lib.cell_of_heap hrd]; rfl
    have b7 : v5.cell? ⟨w.heap.size + 1, 7, none⟩ = some (.int .i64 0) := by rw [Lib.cell_of_heap hrd]; rfl
    have b8 : v5.cell? ⟨w.heap.size + 1, 8, none⟩ = some (.int .i64 0) := by rw [Lib.cell_of_heap hrd]; rfl
    have b9 : v5.cell? ⟨w.heap.size + 1, 9, none⟩ = some (.int .i64 0) := by rw [Lib.cell_of_heap hrd]; rfl
    have b10 : v5.cell? ⟨w.heap.size + 1, 10, none⟩ = some (.bool false) := by rw [Lib.cell_of_heap hrd]; rfl
    have b11 : v5.cell? ⟨w.heap.size + 1, 11, none⟩ = some (.int .i64 0) := by rw [Lib.cell_of_heap hrd]; rfl
    have fz : ∀ j, v5.frozen? ⟨w.heap.size + 1, j, none⟩ = false := fun j => Lib.frozen_of_heap hrd j
    have HQ := Lib.hid (And.intro hcd (And.intro hrd hgd))
    have hn24 := HS.out
    clear hcd hrd hgd
    go_wp2_with fail
    refine ⟨rfl, HQ.out.1, _, rfl, ?_⟩
    go_wp2_with fail
    clear b0 b1 b2 b3 b4 b5 b6 b7 b8 b9 b10 b11 fz
    obtain ⟨w6, hw6, h6, g6⟩ := set12 v5 (w.heap.size + 1) deadW u 39 (0, 0) HQ.out.2.1
    rw [hw6]
    have hc2 : w6.heap[w2.heap.size]? = some (.cells #[.slice A1 m.length c1, .int .i64 at0, .map (some b)] 68 (0, 0)) := (g6.block _ (lt_heap6' HQ.out.1.1) (fun e => by injection e with e; omega)).trans HQ.out.1.1
    have hc4 : w6.heap[w4.heap.size]? = some (.cells (wkA u) 39 (0, 0)) := (g6.block _ (lt_heap6' HQ.out.1.2) (fun e => by injection e with e; omega)).trans HQ.out.1.2
    refine ⟨rfl, ⟨hc2, hc4⟩, _, rfl, ?_⟩
    have hg := HQ.out.2.2.trans g6
    have HC := Lib.hid (And.intro hc2 hc4)
    clear hw6 g6 hc2 hc4
    go_wp2_with fail
    exact ⟨rfl, HC.out, rfl, h6, hg⟩
  · rintro a9 w9 ⟨rfl, h9, g9⟩
    simp only [Act.put, List.setIfInBounds_toArray, List.set_cons_succ, List.set_cons_zero]
    have hB9 : Below w.heap.size w w9 := HM.out.2.2.2.1.grown g9 HM.out.2.2.2.1.size (fun k e => by injection e with e; omega)
    have hO9 := World.ownsRow.kept HM.out.2.2.2.2 g9 (.inr (fun e => by have := (World.ownsRow.lt HN.out.2.2.2 (w.heap.size + 1) e).1; omega))
    have HE := Lib.hid (And.intro h9 (And.intro hB9 hO9))
    clear g9 hB9 hO9 h9
    go_wp2_with fail
    refine bodyPost_ret (results_mid rfl _ _ (w.heap.size + 1) _ _ _ _ rfl HE.out.1 Try.underlying39 rfl (by kernel_rfl)) rfl ?_
    have hd := HD.out
    refine ⟨A1, c1, ?_, own_mono (by rw [hd]; exact HE.out.2.2) (by omega), HE.out.2.1⟩
    rw [hd]
    rfl
end Go.Proofs.Ytocepdhjkhhpfaa
namespace Go.Proofs.Ytocepdhjkhhpfaa
set_option maxRecDepth 100000
set_option linter.unusedVariables false
set_option linter.unusedSimpArgs false
open Go.RowKit Go.Sort

/-- the four cells of an access -/
def cellsA (y : Ac) : List Value := [.int .i64 y.1, .int .i64 y.2.1, .int .i64 y.2.2.1, .int .i64 y.2.2.2]
def flA (l : List Ac) : List Value := l.flatMap cellsA
theorem flA_append (l m : List Ac) : flA (l ++ m) = flA l ++ flA m := by unfold flA; simp
theorem length_flA (l : List Ac) : (flA l).length = l.length * 4 := by
  induction l with
  | nil => rfl
  | cons x l ih => simp only [flA, cellsA, List.flatMap_cons, List.length_append, List.length_cons, List.length_nil] at ih ⊢; omega
theorem flA_get (l : List Ac) (j : Nat) (h : j < l.length) : (flA l)[j * 4]? = some (.int .i64 (l.getD j deadA).1) ∧ (flA l)[j * 4 + 1]? = some (.int .i64 (l.getD j deadA).2.1) ∧ (flA l)[j * 4 + 2]? = some (.int .i64 (l.getD j deadA).2.2.1) ∧ (flA l)[j * 4 + 3]? = some (.int .i64 (l.getD j deadA).2.2.2) := by
  induction l generalizing j with
  | nil => exact absurd h (Nat.not_lt_zero j)
  | cons x l ih =>
    cases j with
    | zero => simp [flA, cellsA]
    | succ j =>
      have := ih j (by simpa using h)
      have e1 : (j + 1) * 4 = j * 4 + 1 + 1 + 1 + 1 := by omega
      have e2 : flA (x :: l) = .int .i64 x.1 :: .int .i64 x.2.1 :: .int .i64 x.2.2.1 :: .int .i64 x.2.2.2 :: flA l := rfl
      rw [e1, e2]
      simpa using this
theorem flA_cell1 (m : List Ac) : ∀ u ∈ flA m, u.oneCell' = true := by
  intro u hu
  obtain ⟨x, _, hx⟩ := List.mem_flatMap.1 hu
  simp only [cellsA, List.mem_cons, List.not_mem_nil, or_false] at hx
  rcases hx with rfl | rfl | rfl | rfl <;> rfl
abbrev OwnA (w : World) (B : Nat) (v : Value) (l : List Ac) : Prop := w.ownsRow B 102 4 v l.length (flA l)
theorem OwnA.slice {w : World} {B : Nat} {v : Value} {l : List Ac} (h : OwnA w B v l) : ∃ A c, v = .slice A l.length c ∧ l.length ≤ c ∧ NowA w A l := by
  rcases h.2 with ⟨rfl, h0⟩ | ⟨g, cap, cur, rfl, hb, hh, hn, hcap, hsz, htake⟩
  · have : l = [] := by simpa using h0
    subst this
    exact ⟨none, 0, rfl, Nat.le_refl _, fun j hj => absurd hj (Nat.not_lt_zero j)⟩
  · refine ⟨some ⟨g, 0, none⟩, cap, rfl, hn, fun j hj => ?_⟩
    obtain ⟨f0, f1, f2, f3⟩ := flA_get l j hj
    refine ⟨g, 0, rfl, (World.ownsRow.lt h g rfl).2, ?_⟩
    rw [Nat.zero_add]
    exact ⟨(World.ownsRow.cellAt h (j * 4) (by omega)).trans f0, (World.ownsRow.cellAt h (j * 4 + 1) (by omega)).trans f1, (World.ownsRow.cellAt h (j * 4 + 2) (by omega)).trans f2, (World.ownsRow.cellAt h (j * 4 + 3) (by omega)).trans f3⟩
theorem OwnA.next {w w' : World} {B : Nat} {v : Value} {l : List Ac} (h : OwnA w B v l) (hb : Below w.heap.size w w') : OwnA w' B v l :=
  World.ownsRow.kept h (row := none) ⟨hb.os, hb.tape, hb.output, hb.size, fun k hk _ => hb.block k hk⟩ (by cases v.ownBlock <;> simp)
theorem info_acc : (Try.prog.info? 102).map (fun i => (i.zero, i.size, i.bytes)) = some (some (.agg #[.int .i64 0, .int .i64 0, .int .i64 0, .int .i64 0]), 4, 32) := by kernel_rfl
theorem nowA_at {w : World} {m : List Ac} {b off : Nat} (h : ∀ j, j < m.length → A4At w b (off + j * 4) (m.getD j deadA)) :
    ∀ j u, (flA m)[j]? = some u → w.cell? ((⟨b, off, none⟩ : Addr).add j) = some u := by
  intro j u hu
  rw [Addr.add_lit]
  have hj : j < m.length * 4 := by
    rcases Nat.lt_or_ge j (m.length * 4) with h1 | h1
    · exact h1
    · rw [List.getElem?_eq_none (by rw [length_flA]; exact h1)] at hu; cases hu
  obtain ⟨h0, h1, h2, h3⟩ := h (j / 4) (by omega)
  obtain ⟨f0, f1, f2, f3⟩ := flA_get m (j / 4) (by omega)
  have hc : j % 4 = 0 ∨ j % 4 = 1 ∨ j % 4 = 2 ∨ j % 4 = 3 := by omega
  rcases hc with hp | hp | hp | hp
  · have e : j = j / 4 * 4 := by omega
    rw [e] at hu ⊢
    rw [f0] at hu
    rw [← hu]
    exact h0
  · have e : j = j / 4 * 4 + 1 := by omega
    rw [e] at hu ⊢
    rw [f1] at hu
    rw [← hu, ← Nat.add_assoc]
    exact h1
  · have e : j = j / 4 * 4 + 2 := by omega
    rw [e] at hu ⊢
    rw [f2] at hu
    rw [← hu, ← Nat.add_assoc]
    exact h2
  · have e : j = j / 4 * 4 + 3 := by omega
    rw [e] at hu ⊢
    rw [f3] at hu
    rw [← hu, ← Nat.add_assoc]
    exact h3
theorem nowA_row {w : World} {A : Option Addr} {l : List Ac} (h : NowA w A l) (hn : 0 < l.length) : ∃ b off, A = some ⟨b, off, none⟩ ∧ b < w.heap.size ∧ ∀ j, j < l.length → A4At w b (off + j * 4) (l.getD j deadA) := by
  obtain ⟨b, off, e, hlt, _⟩ := h 0 hn
  refine ⟨b, off, e, hlt, fun j hj => ?_⟩
  obtain ⟨b', off', e', _, h0⟩ := h j hj
  rw [e] at e'
  injection e' with e'
  injection e' with e1 e2
  subst e1 e2
  exact h0
theorem nowA_new (w : World) (y : Ac) : NowA (w.alloc (.cells #[.int .i64 y.1, .int .i64 y.2.1, .int .i64 y.2.2.1, .int .i64 y.2.2.2] 102)) (some ⟨w.heap.size, 0, none⟩) [y] := fun j hj => by
  have hj1 : j = 0 := by simp at hj; omega
  subst hj1
  exact ⟨w.heap.size, 0, rfl, by simp, by simp, by simp, by simp, by simp⟩
/-- what a raw access is read as -/
def accOf (n : Int) (r : Ac) : Ac := (1 + pickI r.1 4, pickI r.2.1 n, pickI r.2.2.1 4, pickI r.2.2.2 4)
def accsTo (n : Int) (raw : List Ac) (k : Nat) : List Ac := (raw.take k).map (accOf n)
def accs (n : Int) (raw : List Ac) : List Ac := accsTo n raw (min raw.length 40)
theorem accsTo_len (n : Int) (raw : List Ac) {k : Nat} (h : k ≤ raw.length) : (accsTo n raw k).length = k := by unfold accsTo; simp; omega
theorem accsTo_succ (n : Int) {raw : List Ac} {k : Nat} (h : k < raw.length) : accsTo n raw (k + 1) = accsTo n raw k ++ [accOf n (raw.getD k deadA)] := by
  unfold accsTo
  rw [List.take_add_one, List.map_append, List.getD_eq_getElem?_getD, List.getElem?_eq_getElem h]
  rfl
def AccR (l : List Ac) (w : World) (r : Ending) (w' : World) : Prop := ∃ v, r = .returned v ∧ OwnA w' w.heap.size v l ∧ Below w.heap.size w w'
end Go.Proofs.Ytocepdhjkhhpfaa
namespace Go.Proofs.Ytocepdhjkhhpfaa
set_option maxRecDepth 100000
set_option linter.unusedVariables false
set_option linter.unusedSimpArgs false
open Go.RowKit Go.Sort

theorem now_lit (w : World) (x : Int) : Now (w.alloc (.cells #[.int .i64 x] 3)) (some ⟨w.heap.size, 0, none⟩) [x] := fun j hj => by
  have hj1 : j = 0 := by simp at hj; omega
  subst hj1
  exact ⟨w.heap.size, 0, rfl, by simp, by simp⟩
theorem now_lit3 (w : World) (x y z : Int) : Now (w.alloc (.cells #[.int .i64 x, .int .i64 y, .int .i64 z] 3)) (some ⟨w.heap.size, 0, none⟩) [x, y, z] := fun j hj => by
  have hj1 : j = 0 ∨ j = 1 ∨ j = 2 := by simp at hj; omega
  rcases hj1 with rfl | rfl | rfl
  all_goals exact ⟨w.heap.size, 0, rfl, by simp, by simp⟩
theorem nowA_lit3 (w : World) (x y z : Ac) : NowA (w.alloc (.cells #[.int .i64 x.1, .int .i64 x.2.1, .int .i64 x.2.2.1, .int .i64 x.2.2.2, .int .i64 y.1, .int .i64 y.2.1, .int .i64 y.2.2.1, .int .i64 y.2.2.2, .int .i64 z.1, .int .i64 z.2.1, .int .i64 z.2.2.1, .int .i64 z.2.2.2] 102)) (some ⟨w.heap.size, 0, none⟩) [x, y, z] := fun j hj => by
  have hj1 : j = 0 ∨ j = 1 ∨ j = 2 := by simp at hj; omega
  rcases hj1 with rfl | rfl | rfl
  all_goals exact ⟨w.heap.size, 0, rfl, by simp, by simp, by simp, by simp, by simp⟩
theorem fine_lit {y : Ac} (h : decide (-10 ≤ y.1 ∧ y.1 ≤ 10 ∧ -10 ≤ y.2.1 ∧ y.2.1 ≤ 10 ∧ -10 ≤ y.2.2.1 ∧ y.2.2.1 ≤ 10 ∧ -10 ≤ y.2.2.2 ∧ y.2.2.2 ≤ 10) = true) : Fine4A y := by
  simp only [decide_eq_true_eq] at h
  unfold Fine4A I64
  omega
end Go.Proofs.Ytocepdhjkhhpfaa
namespace Go.Proofs.Ytocepdhjkhhpfaa
set_option maxRecDepth 100000
set_option linter.unusedVariables false
set_option linter.unusedSimpArgs false
open Go.RowKit Go.Sort

theorem now_wks (w : World) (l : List Wk) : NowWk (w.alloc (.cells (flW l).toArray 39)) (some ⟨w.heap.size, 0, none⟩) l := fun j hj => by
  have hh := heap_alloc_new w (.cells (flW l).toArray 39)
  refine ⟨w.heap.size, 0, rfl, by simp, wAt_of fun k hk => ?_⟩
  rw [Lib.cell_of_heap hh, Nat.zero_add]
  show (flW l).toArray[j * 12 + k]? = _
  rw [List.getElem?_toArray]
  exact flW_get l j k hj hk
theorem now_ints (w : World) (l : List Int) : Now (w.alloc (.cells (l.map (Value.int .i64)).toArray 3)) (some ⟨w.heap.size, 0, none⟩) l := fun j hj => by
  refine ⟨w.heap.size, 0, rfl, by simp, ?_⟩
  rw [Lib.cell_of_heap (heap_alloc_new w _)]
  simp [List.getD_eq_getElem?_getD, List.getElem?_eq_getElem hj]
theorem small_all {l : List Int} (h : l.all (fun x => decide (-1000 ≤ x ∧ x ≤ 1000)) = true) : ∀ j, j < l.length → I64 (l.getD j 0) := fun j hj => by
  rw [List.getD_eq_getElem?_getD, List.getElem?_eq_getElem hj, Option.getD_some]
  have := List.all_eq_true.1 h _ (List.getElem_mem hj)
  simp only [decide_eq_true_eq] at this
  unfold I64
  omega
theorem inl_ints (w : World) (l : List Int) (c : Nat) (h : l.all (fun x => decide (-1000 ≤ x ∧ x ≤ 1000)) = true) (hl : l.length ≤ 1000) : InL (w.alloc (.cells (l.map (Value.int .i64)).toArray 3)) (some ⟨w.heap.size, 0, none⟩) l c := ⟨now_ints w l, by omega, small_all h⟩
theorem inl_none (w : World) (c : Nat) : InL w none [] c := ⟨fun j hj => absurd hj (Nat.not_lt_zero j), by simp, fun j hj => absurd hj (Nat.not_lt_zero j)⟩
def pk1 : List Int := [2, 1, 0, 1, 2, 2]
def R1 : List Int × List Wk × Int := ([2097152, 2, 0], [⟨0, 1, 0, 2097152, 0, true, -1⟩, ⟨2, 1, 0, 1048578, 0, true, 1⟩, ⟨2, 1, 0, 1, 2, true, 0⟩], 0)
def R2 : List Int × List Wk × Int := ([3145730, 2, 0], [⟨2, 2, 1, 2097152, 0, true, 1⟩], 0)
theorem run_r1 : runW 0 pk1 [1, 2, 0] [popW, popW, popW] = R1 := by kernel_rfl
theorem run_r2 : runW 0 [] [2097152, 2, 0] [pushW 1] = R2 := by kernel_rfl
set_option maxHeartbeats 8000000 in
theorem awake12_any (w : World) : Calls Try.prog 12 #[] w fun e w' => e = .returned (.bool true) ∧ Below w.heap.size w w' := by
  have h1 := makeF_any 2 (by decide) w
  go_enter Try.func12, Try.ntmps12
  go_wp2_with fail
  refine h1.mono ?_
  rintro r w1 ⟨v, rfl, ho, hb1⟩
  rw [show makeL 2 = [1, 2, 0] by decide] at ho
  obtain ⟨A1, c1, rfl, hc1, hN1⟩ := own_slice ho
  have HN1 := Lib.hid (And.intro hN1 hb1)
  clear h1 ho hb1 hN1
  go_wp2_with fail
  have hbp := (Below.refl w1.heap.size w1).alloc (Nat.le_refl _) (.cells #[.int .i64 2, .int .i64 1, .int .i64 0, .int .i64 1, .int .i64 2, .int .i64 2] 3)
  have hp := inl_ints w1 pk1 6 (by decide) (by decide)
  rw [show (pk1.map (Value.int .i64)).toArray = #[.int .i64 2, .int .i64 1, .int .i64 0, .int .i64 1, .int .i64 2, .int .i64 2] from rfl] at hp
  obtain ⟨w2, hw2⟩ : ∃ w2, w1.alloc (.cells #[.int .i64 2, .int .i64 1, .int .i64 0, .int .i64 1, .int .i64 2, .int .i64 2] 3) = w2 := ⟨_, rfl⟩
  rw [hw2] at hbp hp ⊢
  clear hw2
  refine (popF_any w2).mono ?_
  rintro r w3 ⟨rfl, hb3⟩
  go_wp2_with fail
  refine (popF_any w3).mono ?_
  rintro r w4 ⟨rfl, hb4⟩
  go_wp2_with fail
  refine (popF_any w4).mono ?_
  rintro r w5 ⟨rfl, hb5⟩
  have hb25 := Qt.more (Qt.more hb3 hb3.size hb4) (Nat.le_trans hb3.size hb4.size) hb5
  have HP := Lib.hid (hp.below hb25)
  have HB5 := Lib.hid (And.intro (HN1.out.1.below (Qt.more hbp hbp.size hb25)) (Qt.more HN1.out.2 HN1.out.2.size (Qt.more hbp hbp.size hb25)))
  clear hb3 hb4 hb5 hb25 hp hbp HN1
  go_wp2_with fail
  have hwk := now_wks w5 [popW, popW, popW]
  have hbw := (Below.refl w5.heap.size w5).alloc (Nat.le_refl _) (.cells (flW [popW, popW, popW]).toArray 39)
  rw [show (flW [popW, popW, popW]).toArray = #[.int .i64 popW.pc, .int .i64 popW.job, .int .i64 popW.r0, .int .i64 popW.r1, .int .i64 popW.r2, .int .i64 0, .int .i64 0, .int .i64 0, .int .i64 0, .int .i64 0, .bool popW.done, .int .i64 popW.out, .int .i64 popW.pc, .int .i64 popW.job, .int .i64 popW.r0, .int .i64 popW.r1, .int .i64 popW.r2, .int .i64 0, .int .i64 0, .int .i64 0, .int .i64 0, .int .i64 0, .bool popW.done, .int .i64 popW.out, .int .i64 popW.pc, .int .i64 popW.job, .int .i64 popW.r0, .int .i64 popW.r1, .int .i64 popW.r2, .int .i64 0, .int .i64 0, .int .i64 0, .int .i64 0, .int .i64 0, .bool popW.done, .int .i64 popW.out] from rfl] at hwk hbw
  obtain ⟨w6, hw6⟩ : ∃ w6, w5.alloc (.cells #[.int .i64 popW.pc, .int .i64 popW.job, .int .i64 popW.r0, .int .i64 popW.r1, .int .i64 popW.r2, .int .i64 0, .int .i64 0, .int .i64 0, .int .i64 0, .int .i64 0, .bool popW.done, .int .i64 popW.out, .int .i64 popW.pc, .int .i64 popW.job, .int .i64 popW.r0, .int .i64 popW.r1, .int .i64 popW.r2, .int .i64 0, .int .i64 0, .int .i64 0, .int .i64 0, .int .i64 0, .bool popW.done, .int .i64 popW.out, .int .i64 popW.pc, .int .i64 popW.job, .int .i64 popW.r0, .int .i64 popW.r1, .int .i64 popW.r2, .int .i64 0, .int .i64 0, .int .i64 0, .int .i64 0, .int .i64 0, .bool popW.done, .int .i64 popW.out] 39) = w6 := ⟨_, rfl⟩
  rw [hw6] at hwk hbw ⊢
  clear hw6
  have hr := runF_any A1 (some ⟨w1.heap.size, 0, none⟩) (some ⟨w5.heap.size, 0, none⟩) [1, 2, 0] pk1 [popW, popW, popW] c1 6 3 0 w6 (HB5.out.1.below hbw) (by decide) (by intro x hx; simp only [List.mem_cons, List.not_mem_nil, or_false] at hx; rcases hx with rfl | rfl | rfl <;> exact ⟨by decide, by decide⟩) (HP.out.below hbw) hwk (by intro j hj; match j, hj with | 0, _ => exact pop_fit | 1, _ => exact pop_fit | 2, _ => exact pop_fit) (by decide) (by decide)
  rw [run_r1] at hr
  have HB6 := Lib.hid (And.intro (HB5.out.1.below hbw) (Qt.more HB5.out.2 HB5.out.2.size hbw))
  clear hwk hbw HB5 HP
  refine hr.mono ?_
  rintro r w7 ⟨A2, c2, L2, d2, rfl, hN7, hW7, hb7⟩
  clear hr
  simp only [R1] at hN7 hW7 ⊢
  have HN7 := Lib.hid (And.intro (HB6.out.1.below hb7) (And.intro hN7 (And.intro hW7 (Qt.more HB6.out.2 HB6.out.2.size hb7))))
  clear hN7 hW7 hb7 HB6
  go_wp2_with fail
  refine (pushF_any 1 w7).mono ?_
  rintro r w8 ⟨rfl, hb8⟩
  have HN8 := Lib.hid (And.intro (HN7.out.1.below hb8) (And.intro (HN7.out.2.1.below hb8) (And.intro (HN7.out.2.2.1.below hb8) (Qt.more HN7.out.2.2.2 HN7.out.2.2.2.size hb8))))
  clear HN7 hb8
  go_wp2_with fail
  have hwk := now_wks w8 [pushW 1]
  have hbw := (Below.refl w8.heap.size w8).alloc (Nat.le_refl _) (.cells (flW [pushW 1]).toArray 39)
  rw [show (flW [pushW 1]).toArray = #[.int .i64 (pushW 1).pc, .int .i64 (pushW 1).job, .int .i64 (pushW 1).r0, .int .i64 (pushW 1).r1, .int .i64 (pushW 1).r2, .int .i64 0, .int .i64 0, .int .i64 0, .int .i64 0, .int .i64 0, .bool (pushW 1).done, .int .i64 (pushW 1).out] from rfl] at hwk hbw
  obtain ⟨w9, hw9⟩ : ∃ w9, w8.alloc (.cells #[.int .i64 (pushW 1).pc, .int .i64 (pushW 1).job, .int .i64 (pushW 1).r0, .int .i64 (pushW 1).r1, .int .i64 (pushW 1).r2, .int .i64 0, .int .i64 0, .int .i64 0, .int .i64 0, .int .i64 0, .bool (pushW 1).done, .int .i64 (pushW 1).out] 39) = w9 := ⟨_, rfl⟩
  rw [hw9] at hwk hbw ⊢
  clear hw9
  have hr := runF_any A2 none (some ⟨w8.heap.size, 0, none⟩) [2097152, 2, 0] [] [pushW 1] c2 0 1 0 w9 (HN8.out.2.1.below hbw) (by decide) (by intro x hx; simp only [List.mem_cons, List.not_mem_nil, or_false] at hx; rcases hx with rfl | rfl | rfl <;> exact ⟨by decide, by decide⟩) (inl_none _ _) hwk (by intro j hj; match j, hj with | 0, _ => exact push_fit (by decide)) (by decide) (by decide)
  rw [run_r2] at hr
  have HN9 := Lib.hid (And.intro (HN8.out.1.below hbw) (And.intro (HN8.out.2.1.below hbw) (And.intro (HN8.out.2.2.1.below hbw) (Qt.more HN8.out.2.2.2 HN8.out.2.2.2.size hbw))))
  clear hwk hbw HN8
  refine hr.mono ?_
  rintro r w10 ⟨A3, c3, L3, d3, rfl, hN10, hW10, hb10⟩
  clear hr
  simp only [R2] at hN10 hW10 ⊢
  have HN10 := Lib.hid (And.intro (HN9.out.1.below hb10) (And.intro (HN9.out.2.1.below hb10) (And.intro (HN9.out.2.2.1.below hb10) (And.intro hN10 (And.intro hW10 (Qt.more HN9.out.2.2.2 HN9.out.2.2.2.size hb10))))))
  clear hN10 hW10 hb10 HN9
  go_wp2_with fail
  have hst := stepG_any deadW 0 [1, 2, 0] ([1, 2, 0], deadW, 1) A1 c1 w10 HN10.out.1 (by decide) rfl (fun A1 c1 b B W q1 q2 q3 => stepL_zero 0 [1, 2, 0] A1 c1 b W q1 q2 q3)
  refine hst.mono ?_
  rintro r w11 ⟨A4, c4, rfl, hN11, hb11⟩
  clear hst
  have hal := (Below.refl w11.heap.size w11).alloc (Nat.le_refl _) (.cells (wkA deadW) 39)
  have hB12 := Qt.more HN10.out.2.2.2.2.2 HN10.out.2.2.2.2.2.size (Qt.more hb11 hb11.size hal)
  have hb12 := Qt.more hb11 hb11.size hal
  obtain ⟨w12, hw12⟩ : ∃ w12, w11.alloc (.cells (wkA deadW) 39) = w12 := ⟨_, rfl⟩
  rw [hw12] at hb12 hB12
  have HW12 := Lib.hid hw12
  have HN12 := Lib.hid (And.intro (HN10.out.1.below hb12) (And.intro (HN10.out.2.1.below hb12) (And.intro (HN10.out.2.2.1.below hb12) (And.intro (HN10.out.2.2.2.1.below hb12) (And.intro (HN10.out.2.2.2.2.1.below hb12) hB12)))))
  obtain ⟨b2, off2, hL2, -, hc2⟩ := nowWk_row HN12.out.2.2.1 (by decide)
  obtain ⟨b3, off3, hL3, -, hc3⟩ := nowWk_row HN12.out.2.2.2.2.1 (by decide)
  have x0 := (hc2 0 (by decide)).c11
  have x1 := (hc2 1 (by decide)).c11
  have x2 := (hc2 2 (by decide)).c11
  have x3 := (hc2 0 (by decide)).c10
  have x4 := (hc3 0 (by decide)).c11
  simp only [List.getD_cons_zero, List.getD_cons_succ, Nat.zero_mul, Nat.one_mul, Nat.add_zero, show 2 * 12 = 24 from rfl] at x0 x1 x2 x3 x4
  subst hL2 hL3
  clear hN11 hb11 hal hB12 hb12 hw12 hc2 hc3 HN10
  go_wp2_with (rw [HW12.out])
  have k0 := Qt.cell_in x0
  have k1 := Qt.cell_in x1
  have k2 := Qt.cell_in x2
  refine Qt.below_all (by kernel_rfl) (by kernel_rfl) ?_
  iterate 15 (go_big_quiet_step (fail))
  refine wpQuiet_nil ?_
  intro w13 hb13
  have x3 := Qt.keep hb13 x3
  have x4 := Qt.keep hb13 x4
  have HN13 := Lib.hid (And.intro (HN12.out.1.below hb13) (And.intro (HN12.out.2.1.below hb13) (And.intro (HN12.out.2.2.2.1.below hb13) (Qt.more HN12.out.2.2.2.2.2 HN12.out.2.2.2.2.2.size hb13))))
  clear k0 k1 k2 x0 x1 x2 hb13 HN12 HW12
  go_wp2_with fail
  have hal := (Below.refl w13.heap.size w13).alloc (Nat.le_refl _) (.cells #[.int .i64 1, .int .i64 2, .int .i64 0] 3)
  refine (ints_yes (HN13.out.1.below hal) (now_ints w13 [1, 2, 0]) rfl rfl (by decide) rfl).mono ?_
  rintro r w14 ⟨rfl, hb14⟩
  have hb14 := Qt.more hal hal.size hb14
  have x3 := Qt.keep hb14 x3
  have x4 := Qt.keep hb14 x4
  have HN14 := Lib.hid (And.intro (HN13.out.2.1.below hb14) (And.intro (HN13.out.2.2.1.below hb14) (Qt.more HN13.out.2.2.2 HN13.out.2.2.2.size hb14)))
  clear hal hb14 HN13
  go_wp2_with fail
  have hfr := freeF_any A2 [2097152, 2, 0] c2 w14 HN14.out.1 (by decide) (by intro x hx; simp only [List.mem_cons, List.not_mem_nil, or_false] at hx; rcases hx with rfl | rfl | rfl <;> exact ⟨by decide, by decide⟩)
  rw [show freeL [2097152, 2, 0] = [] by kernel_rfl] at hfr
  refine hfr.mono ?_
  rintro r w15 ⟨v, rfl, ho, hb15⟩
  obtain ⟨A5, c5, rfl, -, -⟩ := own_slice ho
  have x4 := Qt.keep hb15 x4
  have HN15 := Lib.hid (And.intro (HN14.out.2.1.below hb15) (Qt.more HN14.out.2.2 HN14.out.2.2.size hb15))
  clear hfr ho hb15 HN14
  go_wp2_with fail
  have hfr := freeF_any A3 [3145730, 2, 0] c3 w15 HN15.out.1 (by decide) (by intro x hx; simp only [List.mem_cons, List.not_mem_nil, or_false] at hx; rcases hx with rfl | rfl | rfl <;> exact ⟨by decide, by decide⟩)
  rw [show freeL [3145730, 2, 0] = [1] by kernel_rfl] at hfr
  refine hfr.mono ?_
  rintro r w16 ⟨v, rfl, ho, hb16⟩
  obtain ⟨A6, c6, rfl, -, hN⟩ := own_slice ho
  have HN16 := Lib.hid (And.intro hN (Qt.more HN15.out.2 HN15.out.2.size hb16))
  clear hfr ho hb16 HN15 hN
  go_wp2_with fail
  have hal := (Below.refl w16.heap.size w16).alloc (Nat.le_refl _) (.cells #[.int .i64 1] 3)
  refine (ints_yes (HN16.out.1.below hal) (now_ints w16 [1]) rfl rfl (by decide) rfl).mono ?_
  rintro r w17 ⟨rfl, hb17⟩
  have HB17 := Lib.hid (Qt.more HN16.out.2 HN16.out.2.size (Qt.more hal hal.size hb17))
  clear hal hb17 HN16
  go_wp2_with fail
  go_ret
  exact ⟨rfl, HB17.out⟩
end Go.Proofs.Ytocepdhjkhhpfaa
