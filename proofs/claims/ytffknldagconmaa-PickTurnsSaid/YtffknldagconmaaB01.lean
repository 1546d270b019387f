/-
  Texts that the claims of this seat share, part 1.
-/
import Derived.Test.YtffknldagconmaaB00
set_option linter.unusedVariables false
set_option linter.unusedSimpArgs false
namespace Go.Proofs.Ytffknldagconmaa
set_option maxRecDepth 100000
set_option linter.unusedVariables false
set_option linter.unusedSimpArgs false
open Go.RowKit Go.Sort

/-- on the path of a place, ahead of n -/
def onP (k n m : Nat) : Bool := decide (m - lowN m ≤ k) && decide (k < m) && decide (m < n)
/-- the tree, its places on the path ahead of n one less -/
def fenTo (l : List Int) (k n : Nat) : List Int := rowF (l.length + 1) fun m => if onP k n m = true then fenA l m - 1 else fenA l m
theorem fenTo_len (l : List Int) (k n : Nat) : (fenTo l k n).length = l.length + 1 := rowF_len _ _
theorem fenTo_start (l : List Int) (k : Nat) : fenTo l k (k + 1) = fenL l := rowF_congr fun m hm => by
  have : onP k (k + 1) m = false := by
    unfold onP
    by_cases h : k < m
    · rw [decide_eq_false (p := m < k + 1) (by omega), Bool.and_false]
    · rw [decide_eq_false (p := k < m) h, Bool.and_false, Bool.false_and]
  rw [this]; rfl
theorem fenTo_get (l : List Int) {k n : Nat} (hn : n ≤ l.length) : (fenTo l k n).getD n 0 = fenA l n := by
  unfold fenTo
  rw [rowF_get _ (by omega)]
  have : onP k n n = false := by unfold onP; rw [decide_eq_false (p := n < n) (by omega), Bool.and_false]
  rw [this]; rfl
theorem fenTo_step (l : List Int) {k n : Nat} (hk : k < 11) (hl : l.length ≤ 11) (hn : n ≤ l.length) (h1 : n - lowN n ≤ k) (h2 : k < n) : (fenTo l k n).set n (fenA l n - 1) = fenTo l k (n + lowN n) := by
  unfold fenTo
  rw [rowF_set]
  refine rowF_congr fun m hm => ?_
  obtain ⟨p1, _⟩ := path_next hk (show n < 12 by omega) ⟨h1, h2⟩
  have hlo := lowN_bd (n := n) (by omega)
  have hp := p1 m (by omega)
  by_cases hmn : m = n
  · subst hmn
    rw [if_pos rfl]
    have : onP k (m + lowN m) m = true := by unfold onP; rw [decide_eq_true h1, decide_eq_true h2, decide_eq_true (by omega)]; rfl
    rw [this]; rfl
  · rw [if_neg hmn]
    have : onP k n m = onP k (n + lowN n) m := by
      unfold onP
      by_cases hlt : m < n
      · rw [decide_eq_true hlt, decide_eq_true (p := m < n + lowN n) (by omega)]
      · rw [decide_eq_false hlt, Bool.and_false]
        by_cases hlt2 : m < n + lowN n
        · have := hp (by omega) hlt2
          rw [← Bool.decide_and, decide_eq_false this, Bool.false_and]
        · rw [decide_eq_false hlt2, Bool.and_false]
    rw [this]
theorem fenTo_end (l : List Int) {k n : Nat} (hk : k < l.length) (h1 : l.getD k 0 = 1) (hn : l.length < n) : fenTo l k n = fenL (l.set k 0) := by
  unfold fenTo fenL
  rw [List.length_set]
  refine rowF_congr fun m hm => ?_
  have e1 := cntP_set l k 0 hk m
  have e2 := cntP_set l k 0 hk (m - lowN m)
  rw [h1, livI_yes (by decide), livI_no (by decide)] at e1 e2
  unfold fenA onP
  rw [decide_eq_true (p := m < n) (by omega), Bool.and_true, ← Bool.decide_and]
  by_cases hin : m - lowN m ≤ k ∧ k < m
  · rw [decide_eq_true hin, if_pos rfl]
    rw [if_pos hin.2, if_pos hin.2] at e1
    rw [if_neg (by omega), if_neg (by omega)] at e2
    omega
  · rw [decide_eq_false hin, if_neg (by decide)]
    by_cases hkm : k < m
    · rw [if_pos hkm, if_pos hkm] at e1
      rw [if_pos (by omega), if_pos (by omega)] at e2
      omega
    · rw [if_neg hkm, if_neg hkm] at e1
      rw [if_neg (by omega), if_neg (by omega)] at e2
      omega
theorem fenL_same (l : List Int) {k : Nat} (x : Int) (hk : k < l.length) (h1 : 0 < l.getD k 0) (h2 : 0 < x) : fenL (l.set k x) = fenL l ∧ manyP (l.set k x) = manyP l := by
  have hc : ∀ p, cntP (l.set k x) p = cntP l p := fun p => by
    have e := cntP_set l k x hk p
    rw [livI_yes h1, livI_yes h2] at e
    omega
  refine ⟨?_, ?_⟩
  · unfold fenL
    rw [List.length_set]
    refine rowF_congr fun m hm => ?_
    unfold fenA
    rw [hc, hc]
  · unfold manyP
    rw [List.length_set, hc]
theorem many_less (l : List Int) {k : Nat} (hk : k < l.length) (h1 : l.getD k 0 = 1) : manyP (l.set k 0) + 1 = manyP l := by
  have e := cntP_set l k 0 hk l.length
  rw [h1, livI_yes (by decide), livI_no (by decide), if_pos hk, if_pos hk] at e
  unfold manyP
  rw [List.length_set]
  omega
theorem heap_other {W : World} {b k i : Nat} {u : Value} (h : b ≠ k) : (W.setCell ⟨b, i, none⟩ u).heap[k]? = W.heap[k]? := by simp [World.setCell, Array.getElem?_modify, h]
theorem own_at {w : World} {B b n c : Nat} {l : List Int} (h : Own w B (.slice (some ⟨b, 0, none⟩) n c) l) (hn : n = l.length) (hl : 0 < l.length) : (∀ j, w.frozen? ⟨b, j, none⟩ = false) ∧ ∀ j, j < l.length → w.cell? ⟨b, j, none⟩ = some (.int .i64 (l.getD j 0)) := by
  subst hn
  obtain ⟨g, hg, _, _, hf, hc⟩ := own_row h hl
  have : g = b := by injection hg with e; injection e with e; exact e.symm
  subst this
  exact ⟨hf, hc⟩
theorem own_put {w : World} {B b n c : Nat} {l : List Int} (h : Own w B (.slice (some ⟨b, 0, none⟩) n c) l) (hn : n = l.length) (j : Nat) (x : Int) : Own (w.setCell ⟨b, j, none⟩ (.int .i64 x)) B (.slice (some ⟨b, 0, none⟩) n c) (l.set j x) := by
  subst hn
  exact (own_set h j x).1
/-- within a turn -/
structure Turning (W wr : World) (q q2 C S cS D : Nat) (l : List Int) (k n : Nat) : Prop where
  box : wr.heap[C]? = some (.cells #[.slice (some ⟨S, 0, none⟩) l.length cS, .slice (some ⟨D, 0, none⟩) (l.length + 1) (l.length + 1), .int .i64 ((manyP l : Int) - 1)] 43 (0, 0))
  steps : Own wr q (.slice (some ⟨S, 0, none⟩) l.length cS) (l.set k 0)
  counts : Own wr q (.slice (some ⟨D, 0, none⟩) (l.length + 1) (l.length + 1)) (fenTo l k n)
  st : St11 q q2 W wr
  path : (n ≤ l.length → n - lowN n ≤ k) ∧ k < n
/-- what a turn leaves -/
def TurnR (W : World) (q q2 C : Nat) (AS : Option Addr) (cS D : Nat) (l : List Int) (e : Ending) (w' : World) : Prop := (∃ v, e = .returned v) ∧ Crew w' q q2 C AS cS D l ∧ St11 q q2 W w'
set_option maxHeartbeats 8000000 in
theorem turn11_any (W : World) (q q2 C : Nat) (AS : Option Addr) (cS D : Nat) (l : List Int) (k : Nat) (h : Crew W q q2 C AS cS D l) (hl : l.length ≤ 11) (hk : 0 < l.getD k 0) (hk2 : l.getD k 0 ≤ 1000000) :
    Calls Try.prog 24 #[.pointer (some ⟨C, 0, none⟩), .int .i64 (k : Int)] W (TurnR W q q2 C AS cS D (l.set k (l.getD k 0 - 1))) := by
  have hkl := live_lt hk
  have hkz : (k : Int) < (l.length : Int) := by omega
  obtain ⟨S, rfl, hSq, hSl, hSf, hSc⟩ := own_row h.steps (by omega)
  have c0 := h.c0
  have c1 := h.c1
  have c2 := h.c2
  have cf2 := h.cf 2
  have y0 := hSc k hkl
  have yf := hSf k
  obtain ⟨hs1, hs2, hs3⟩ := h.sb _ rfl
  simp only at hs1 hs2 hs3
  obtain ⟨hd1, hd2⟩ := h.db
  obtain ⟨hcb1, hcb2⟩ := h.cb
  have hDq : q ≤ D := (World.ownsRow.lt h.counts D rfl).1
  have hsame := @fenL_same l k (l.getD k 0 - 1) hkl hk
  have hless := @many_less l k hkl
  have hend := fun n => @fenTo_end l k n hkl
  have hm0 := live_many hk
  have hml := many_le l
  have H1 : ∀ x, Own (W.setCell ⟨S, k, none⟩ (.int .i64 x)) q (.slice (some ⟨S, 0, none⟩) l.length cS) (l.set k x) := fun x => own_put h.steps rfl k x
  have H2 : ∀ x, Own (W.setCell ⟨S, k, none⟩ (.int .i64 x)) q (.slice (some ⟨D, 0, none⟩) (l.length + 1) (l.length + 1)) (fenL l) := fun x => own_keeps h.counts fun g hg => heap_other (by simp [Value.ownBlock] at hg; omega)
  have H3 : ∀ x, (W.setCell ⟨S, k, none⟩ (.int .i64 x)).heap[C]? = some (.cells #[.slice (some ⟨S, 0, none⟩) l.length cS, .slice (some ⟨D, 0, none⟩) (l.length + 1) (l.length + 1), .int .i64 (manyP l : Int)] 43 (0, 0)) := fun x => (heap_other (by omega)).trans h.box
  have H4 : ∀ x, St11 q q2 W (W.setCell ⟨S, k, none⟩ (.int .i64 x)) := fun x => (St11.refl _ _ _).set _ hSq hs1
  have hCS : ¬ S = C := hs2
  have hSD : ¬ S = D := hs3
  obtain ⟨x, hx⟩ : ∃ x, x = l.getD k 0 := ⟨_, rfl⟩
  rw [← hx] at hk hk2 y0 hsame hless hend ⊢
  have HX := Lib.hid hx
  have HC := Lib.hid h
  have HSM := Lib.hid hsame
  have HLS := Lib.hid hless
  have HED := Lib.hid hend
  have HW := Lib.hid (And.intro H1 (And.intro H2 (And.intro H3 H4)))
  have HM := Lib.hid (And.intro hm0 hml)
  clear h hSf hSc hx hsame hless hend H1 H2 H3 H4 hm0 hml
  by_cases hx1 : 1 < x
  · go_enter Try.func24, Try.ntmps24
    go_wp2_with fail
    obtain ⟨h1, h2, h3, h4⟩ := HW.out
    obtain ⟨e1, e2⟩ := HSM.out (by omega)
    refine bodyPost_ret (results_none rfl _ _ _) rfl ?_
    refine ⟨⟨_, rfl⟩, ⟨?_, ?_, ?_, ⟨hcb1, hcb2⟩, ⟨hd1, hd2⟩, fun a ha => by cases ha; exact ⟨hs1, hs2, hs3⟩⟩, h4 _⟩
    · rw [e2, List.length_set]; exact h3 _
    · rw [List.length_set]; exact h1 _
    · rw [e1, List.length_set]; exact h2 _
  · obtain rfl : x = 1 := by omega
    have hx1z : ¬ (1 : Int) < 1 := by decide
    clear hx1
    obtain ⟨m, hm⟩ : ∃ m, m = manyP l := ⟨_, rfl⟩
    have hmm : 1 ≤ m ∧ m ≤ 11 := by have := HM.out; omega
    rw [← hm] at c2
    have HT : Hid (Turning W ((W.setCell ⟨S, k, none⟩ (.int .i64 0)).setCell ⟨C, 2, none⟩ (.int .i64 ((m : Int) - 1))) q q2 C S cS D l k (k + 1)) := by
      obtain ⟨h1, h2, h3, h4⟩ := HW.out
      refine ⟨?_, own_keeps (h1 0) fun g hg => heap_other (by simp [Value.ownBlock] at hg; omega), ?_, (h4 0).set _ hcb1 hcb2, ⟨fun hn => by have := lowN_bd (n := k + 1) (by omega); omega, by omega⟩⟩
      · have := h3 0
        rw [← hm] at this ⊢
        simp [World.setCell, Array.getElem?_modify] at this ⊢
        rw [this]
        simp
      · rw [fenTo_start]
        exact own_keeps (h2 0) fun g hg => heap_other (by simp [Value.ownBlock] at hg; omega)
    have HMM := Lib.hid hm
    clear hm HW
    go_enter Try.func24, Try.ntmps24
    go_wp2_with fail
    clear c0 c1 c2 cf2 y0 yf
    generalize (W.setCell ⟨S, k, none⟩ (.int .i64 0)).setCell ⟨C, 2, none⟩ (.int .i64 ((m : Int) - 1)) = W1 at *
    go_loopw [4] (fun i wr => ∃ n : Nat, n ≤ 22 ∧ i = .int .i64 (n : Int) ∧ Hid (Turning W wr q q2 C S cS D l k n)) (fun i _ => 22 - (intOf i).toNat)
    case atStart => exact ⟨k + 1, by omega, by go_num, HT.out⟩
    case round =>
      obtain ⟨n, hn22, rfl, HR⟩ := hrel
      have hR := HR.out
      have y1 : wr.cell? ⟨C, 1, none⟩ = some (.slice (some ⟨D, 0, none⟩) (l.length + 1) (l.length + 1)) := by rw [Lib.cell_of_heap hR.box]; rfl
      by_cases hn : n ≤ l.length
      · have hnz : (n : Int) < (l.length : Int) + 1 := by omega
        obtain ⟨f1, f2⟩ := own_at hR.counts (fenTo_len _ _ _).symm (by rw [fenTo_len]; omega)
        have y2 := f2 n (by rw [fenTo_len]; omega)
        rw [fenTo_get l hn] at y2
        have yf := f1 n
        obtain ⟨p1, p2⟩ := hR.path
        have hfb := fenA_bd l n
        have hlb := lowN_bd (n := n) (by omega)
        have hput := own_put hR.counts (fenTo_len _ _ _).symm n (fenA l n - 1)
        rw [fenTo_step l (by omega) hl hn (p1 hn) p2] at hput
        have HN : Hid (Turning W (wr.setCell ⟨D, n, none⟩ (.int .i64 (fenA l n - 1))) q q2 C S cS D l k (n + lowN n)) :=
          ⟨(heap_other hd2).trans hR.box, own_keeps hR.steps fun g hg => heap_other (by simp [Value.ownBlock] at hg; omega), hput, hR.st.set _ hDq hd1, ⟨fun hle => (path_next (by omega) (by omega) ⟨p1 hn, p2⟩).2 (by omega), by omega⟩⟩
        have hlo := fun W => lowest_any n W (by omega) (by omega)
        obtain ⟨y, hy⟩ : ∃ y, y = fenA l n := ⟨_, rfl⟩
        rw [← hy] at y2 hfb HN
        obtain ⟨z, hz⟩ : ∃ z, z = lowN n := ⟨_, rfl⟩
        rw [← hz] at hlo hlb HN
        clear hR f1 f2 p1 p2 hput hy hz HR
        go_wp2_with fail
        refine (hlo _).mono ?_
        rintro e w' ⟨rfl, hw'⟩
        subst hw'
        clear hlo y1 y2 yf
        go_wp2_with fail
        go_roundw
        case measure => simp [intOf]; omega
        case rel => exact ⟨n + z, by omega, by go_num, HN.out⟩
      · have hnz : ¬ (n : Int) < (l.length : Int) + 1 := by omega
        have hend := HED.out n (by first | trivial | rfl) (by omega)
        have hless := HLS.out (by first | trivial | rfl)
        have HF : Hid (Crew wr q q2 C (some ⟨S, 0, none⟩) cS D (l.set k (1 - 1))) := by
          refine ⟨?_, ?_, ?_, ⟨hcb1, hcb2⟩, ⟨hd1, hd2⟩, fun a ha => by cases ha; exact ⟨hs1, hs2, hs3⟩⟩
          · rw [List.length_set, show (1 : Int) - 1 = 0 by decide, show ((manyP (l.set k 0) : Nat) : Int) = (manyP l : Int) - 1 by omega]; exact hR.box
          · rw [List.length_set]; exact hR.steps
          · rw [List.length_set, show (1 : Int) - 1 = 0 by decide, ← hend]; exact hR.counts
        have HST := Lib.hid hR.st
        clear hR hend hless HR
        go_wp2_with fail
        go_end0
        exact ⟨⟨_, rfl⟩, HF.out, HST.out⟩
end Go.Proofs.Ytffknldagconmaa
namespace Go.Proofs.Ytffknldagconmaa
set_option maxRecDepth 100000
set_option linter.unusedVariables false
set_option linter.unusedSimpArgs false
open Go.RowKit Go.Sort

/-- four numbers lie here -/
def A4At (w : World) (b o : Nat) (y : Ac) : Prop := w.cell? ⟨b, o, none⟩ = some (.int .i64 y.1) ∧ w.cell? ⟨b, o + 1, none⟩ = some (.int .i64 y.2.1) ∧ w.cell? ⟨b, o + 2, none⟩ = some (.int .i64 y.2.2.1) ∧ w.cell? ⟨b, o + 3, none⟩ = some (.int .i64 y.2.2.2)
theorem A4At.below {w w' : World} {b o B : Nat} {y : Ac} (h : A4At w b o y) (hb : Below B w w') (hx : b < B) : A4At w' b o y := by
  obtain ⟨h0, h1, h2, h3⟩ := h
  exact ⟨(hb.cell (p := ⟨b, o, none⟩) hx).trans h0, (hb.cell (p := ⟨b, o + 1, none⟩) hx).trans h1, (hb.cell (p := ⟨b, o + 2, none⟩) hx).trans h2, (hb.cell (p := ⟨b, o + 3, none⟩) hx).trans h3⟩
/-- The slice at A reads as four numbers each. -/
def RdA (w : World) (B : Nat) (A : Option Addr) (l : List Ac) : Prop :=
  ∀ j, j < l.length → ∃ b off, A = some ⟨b, off, none⟩ ∧ b < B ∧ A4At w b (off + j * 4) (l.getD j deadA)
theorem RdA.below {w w' : World} {B B' : Nat} {A : Option Addr} {l : List Ac} (h : RdA w B A l) (hb : Below B' w w') (hB : B ≤ B') : RdA w' B A l := fun j hj => by
  obtain ⟨b, off, e, hlt, h0⟩ := h j hj
  exact ⟨b, off, e, hlt, h0.below hb (Nat.lt_of_lt_of_le hlt hB)⟩
theorem RdA.more {w : World} {B B' : Nat} {A : Option Addr} {l : List Ac} (h : RdA w B A l) (hB : B ≤ B') : RdA w B' A l := fun j hj => by
  obtain ⟨b, off, e, hlt, h0⟩ := h j hj
  exact ⟨b, off, e, by omega, h0⟩
abbrev NowA (w : World) (A : Option Addr) (l : List Ac) : Prop := RdA w w.heap.size A l
theorem RdA.now {w w' : World} {A : Option Addr} {l : List Ac} (h : NowA w A l) (hb : Below w.heap.size w w') : NowA w' A l := (RdA.below h hb (Nat.le_refl _)).more hb.size
end Go.Proofs.Ytffknldagconmaa
namespace Go.Proofs.Ytffknldagconmaa
set_option maxRecDepth 100000
set_option linter.unusedVariables false
set_option linter.unusedSimpArgs false
open Go.RowKit Go.Sort

theorem makeW (n : Nat) (hn : n ≤ 17592186044416) (u : World) : ∃ u', (Instr.makeSlice 22 (.int .i64 (n : Int)) (.int .i64 (n : Int))).run Try.prog u = .ok (.slice (some ⟨u.heap.size, 0, none⟩) n n) u' ∧
    Own u' u.heap.size (.slice (some ⟨u.heap.size, 0, none⟩) n n) (List.replicate n 0) ∧ u.grownBy u' none := by
  obtain ⟨i0, hi, hz0, hz1, hz2⟩ := info_parts info_int
  obtain ⟨u', h1, h2, h3⟩ := run_make_full (P := Try.prog) u u.heap.size 22 3 i0 _ 1 Try.underlying22 hi hz0 hz1 .i64 .i64 n (by rw [hz2]; omega) (by unfold maxLen; omega) (Nat.le_refl _)
  refine ⟨u', h1, ?_, h3⟩
  have e : (madeCells (Value.int .i64 0).cells (n * 1)).toList = (List.replicate n (0 : Int)).map (Value.int .i64) := by
    rw [Nat.mul_one]
    show (madeCells #[Value.int .i64 0] n).toList = _
    rw [toList_madeCells_one, List.map_replicate]
  rw [e] at h2
  show World.ownsRow _ _ _ _ _ _ _
  rw [List.length_replicate]
  exact h2
end Go.Proofs.Ytffknldagconmaa
namespace Go.Proofs.Ytffknldagconmaa.Qt
open Go Go.Sort Go.RowKit

/-- It ends as it should, nothing else. -/
def Qn (K : Act → World → Prop) : Exit → Act → World → Prop := fun x a w => x = .normal ∧ K a w

section
variable {P : Program} {ops : Array Oper} {md : Region.Mode} {C : World → Prop}

def PureV (P : Program) (ops : Array Oper) (o : Oper) (v : Value) (a : Act) : Prop :=
  Region.wanted o (yielded ops a.tmps) = true ∧ ∀ w, (execOp a.eval o).run P w = .ok (.value v) w

theorem no_letsOut {K : Act → World → Prop} (h : LetsOut (Qn K)) : False := by
  obtain ⟨a, w, h1, _⟩ := h
  cases h1

theorem upon_qn {o : Oper} {a : Act} {K K' : Act → World → Prop} {Kf : Act → World → Prop} {Q' : Exit → Act → World → Prop} (h : ∀ a w, K a w → K' a w) (r : Result Next) (hh : o.upon P a K (Qn Kf) r) : o.upon P a K' Q' r := by
  cases r with
  | ok n w' =>
    cases n <;> simp only [Oper.upon] at hh ⊢ <;>
      first
        | exact h _ _ hh
        | exact Calls.mono hh (fun e w'' he => by cases e <;> first | exact h _ _ he | exact absurd he.1 (by simp) | exact (no_letsOut he).elim)
        | exact Rows.mono hh (fun _ _ he => h _ _ he)
  | halt x w' => cases x <;> simp only [Oper.upon] at hh ⊢ <;> first | exact hh | exact absurd hh.1 (by simp)

theorem wpOp_qn {i : Nat} {a : Act} {w : World} {K K' : Act → World → Prop} {Kf : Act → World → Prop} {Q' : Exit → Act → World → Prop} (h : ∀ a w, K a w → K' a w) (hh : wpOp P ops (Qn Kf) i K a w) : wpOp P ops Q' i K' a w := by
  unfold wpOp at *
  split
  · exact h _ _ (by simpa [*] using hh)
  · rename_i o ho
    simp only [ho] at hh
    split
    · rename_i hw
      simp only [hw, if_true] at hh
      rcases hh with hh | hh
      · left; unfold Oper.wp at *; exact upon_qn h _ hh
      · exact (no_letsOut hh.2).elim
    · rename_i hw; simp only [hw] at hh; exact h _ _ hh

theorem any_qn {Kf : Act → World → Prop} {Q : Exit → Act → World → Prop} (hQ : ∀ a w, Kf a w → Q .normal a w) (f : Nat) : ∀ listed a w, wpAny P md ops (Qn Kf) f listed a w → wpAny P md ops Q f listed a w := by
  induction f with
  | zero => intro listed a w h; exact ⟨h.1, hQ _ _ h.2.2⟩
  | succ f ih => intro listed a w h; exact ⟨fun h0 => hQ _ _ (h.1 h0).2, fun i hi => wpOp_qn (fun a' w' h' => ih _ a' w' h') (h.2 i hi)⟩

theorem upon_put {o : Oper} {a : Act} {d : Option Nat} {v : Value} {K : Act → World → Prop} {Kf : Act → World → Prop} {R : Act → Prop} (hc : ∀ (a : Act) u, (a.put d v).put o.dst u = (a.put o.dst u).put d v)
    (hk : ∀ a u, R a → R (a.put o.dst u)) (hd : ∀ (a : Act) ds, R a → R { a with defers := ds }) (ha : R a) (r : Result Next) (hh : o.upon P (a.put d v) K (Qn Kf) r) :
    o.upon P a (fun a' w' => R a' ∧ K (a'.put d v) w') (Qn Kf) r := by
  cases r with
  | ok n w' =>
    cases n <;> simp only [Oper.upon] at hh ⊢ <;>
      first
        | (rw [hc] at hh; exact ⟨hk _ _ ha, hh⟩)
        | exact Calls.mono hh (fun e w'' he => by cases e <;> first | (simp only [hc] at he; exact ⟨hk _ _ ha, he⟩) | exact absurd he.1 (by simp) | exact (no_letsOut he).elim)
        | exact Rows.mono hh (fun _ _ he => by rw [hc] at he; exact ⟨hk _ _ ha, he⟩)
        | (rename_i dd
           have e : ({ a.put d v with defers := dd :: (a.put d v).defers } : Act) = ({ a with defers := dd :: a.defers } : Act).put d v := by cases d <;> rfl
           rw [e, hc] at hh
           exact ⟨hk _ _ (hd _ _ ha), hh⟩)
  | halt x w' => cases x <;> simp only [Oper.upon] at hh ⊢ <;> first | exact hh | exact absurd hh.1 (by simp)

theorem PureV.op {i : Nat} {oi : Oper} {v : Value} {a : Act} (hi : ops[i]? = some oi) (hp : PureV P ops oi v a) {K : Act → World → Prop} {Q : Exit → Act → World → Prop} {w : World} (h : K (a.put oi.dst v) w) : wpOp P ops Q i K a w := by
  unfold wpOp
  simp only [hi, hp.1, if_true]
  left
  unfold Oper.wp
  rw [hp.2 w]
  exact h

/-! ### operations that only move come first, then the rest in the one order that is left -/

/-! ### Operation 0 first, then quiet ones in whatever order, then the rest in one order -/
end
end Go.Proofs.Ytffknldagconmaa.Qt
namespace Go.Proofs.Ytffknldagconmaa.Qt
open Go Go.Sort Go.RowKit

inductive Scr where
  | done : Scr
  | pure : Nat → Scr → Scr
  | only : Nat → Scr → Scr
  | two : Nat → Nat → Scr → Scr → Scr
  | three : Nat → Nat → Nat → Scr → Scr → Scr → Scr

def Scr.len : Scr → Nat
  | .done => 0
  | .pure _ s => s.len + 1
  | .only _ s => s.len + 1
  | .two _ _ s _ => s.len + 1
  | .three _ _ _ s _ _ => s.len + 1

section
variable {P : Program} {ops : Array Oper} {md : Region.Mode}

end
end Go.Proofs.Ytffknldagconmaa.Qt
namespace Go.Proofs.Ytffknldagconmaa.Qt
open Go Go.Sort Go.RowKit

inductive Scc where
  | done : Scc
  | calm : Nat → Scc → Scc
  | only : Nat → Scc → Scc
  | two : Nat → Nat → Scc → Scc → Scc
  | three : Nat → Nat → Nat → Scc → Scc → Scc → Scc
def Scc.len : Scc → Nat
  | .done => 0
  | .calm _ s => s.len + 1
  | .only _ s => s.len + 1
  | .two _ _ s _ => s.len + 1
  | .three _ _ _ s _ _ => s.len + 1

section
variable {P : Program} {ops : Array Oper} {md : Region.Mode} {C : World → Prop}

/-- In every world of the class it leaves the world as it is, and yields v. -/
def CalmV (P : Program) (ops : Array Oper) (C : World → Prop) (o : Oper) (v : Value) (a : Act) : Prop :=
  Region.wanted o (yielded ops a.tmps) = true ∧ ∀ W, C W → Oper.quietUpon P (fun w' => w' = W) W v ((execOp a.eval o).run P W)

theorem CalmV.op {i : Nat} {oi : Oper} {v : Value} {a : Act} (hi : ops[i]? = some oi) (hp : CalmV P ops C oi v a) {K : Act → World → Prop} {Q : Exit → Act → World → Prop} {w : World} (hw : C w) (h : K (a.put oi.dst v) w) : wpOp P ops Q i K a w := by
  unfold wpOp
  simp only [hi, hp.1, if_true]
  left
  refine Oper.wp_of_quiet (C := fun w' => w' = w) (K := fun a' => a' = a.put oi.dst v) rfl (fun a' w' hw' ha' => ?_) ⟨v, fun W hW => ?_, rfl⟩
  · subst hw' ha'
    exact h
  · subst hW
    exact hp.2 W hw

theorem wpOp_keep {j : Nat} {oi oj : Oper} {v : Value} (R : Act → Prop) (hj : ops[j]? = some oj) (hap : oi.apart ops oj = true) (hsi : ∀ cs b, oi.op ≠ .select cs b) (hsj : ∀ cs b, oj.op ≠ .select cs b) {K : Act → World → Prop} {Kf : Act → World → Prop} {a : Act} {w : World}
    (keep : ∀ (a : Act) u, R a → R (a.put oj.dst u)) (hd : ∀ (a : Act) ds, R a → R { a with defers := ds })
    (hp : R a) (h : wpOp P ops (Qn Kf) j K (a.put oi.dst v) w) : wpOp P ops (Qn Kf) j (fun a' w' => R a' ∧ K (a'.put oi.dst v) w') a w := by
  obtain ⟨h1, h2, h3⟩ := Oper.apart_spec hap
  unfold wpOp at *
  simp only [hj] at *
  rw [wanted_put oj a oi.dst v h1] at h
  split
  · rename_i hw
    simp only [hw, if_true] at h
    rcases h with h | h
    · left
      unfold Oper.wp at *
      rw [execOp_put oj hsj a oi.dst v h1] at h
      exact upon_put (R := R) (fun a u => Act.put_comm a v u h2) keep hd hp _ h
    · exact (no_letsOut h.2).elim
  · rename_i hw
    simp only [hw] at h
    exact ⟨keep _ _ hp, by rw [← Act.put_comm a v undef h2]; exact h⟩

/-- whatever order is picked; each world is one of the class -/
def wpAnyC (P : Program) (md : Region.Mode) (ops : Array Oper) (C : World → Prop) (Kf : Act → World → Prop) : Nat → Array Bool → Act → World → Prop
  | 0, listed, a, w => Region.ready md ops listed = [] ∧ Kf a w
  | f + 1, listed, a, w => Region.ready md ops listed ≠ [] ∧ ∀ i ∈ Region.ready md ops listed, wpOp P ops (Qn fun _ _ => False) i (fun a' w' => C w' ∧ wpAnyC P md ops C Kf f (listed.setIfInBounds i true) a' w') a w

theorem any_of_C {Kf : Act → World → Prop} (f : Nat) : ∀ listed a w, wpAnyC P md ops C Kf f listed a w → wpAny P md ops (Qn Kf) f listed a w := by
  induction f with
  | zero => intro listed a w h; exact ⟨h.1, rfl, h.2⟩
  | succ f ih => intro listed a w h; exact ⟨fun h0 => absurd h0 h.1, fun i hi => wpOp_qn (fun a' w' h' => ih _ a' w' h'.2) (h.2 i hi)⟩

theorem calm_first {Kf : Act → World → Prop} {i : Nat} {oi : Oper} {v : Value} (hi : ops[i]? = some oi) (hsel : ∀ (j : Nat) (o : Oper) cs b, ops[j]? = some o → o.op ≠ .select cs b) (f : Nat) :
    ∀ (listed : Array Bool) (a : Act) (w : World), C w →
      (∀ j oj, ops[j]? = some oj → j ≠ i → listed.getD j true = false → (∀ e ∈ oj.after, Region.binds md e = true → e.on ≠ i) → oi.apart ops oj = true) →
      i ∈ Region.ready md ops listed → CalmV P ops C oi v a →
      wpAnyC P md ops C Kf f (listed.setIfInBounds i true) (a.put oi.dst v) w → wpAnyC P md ops C Kf (f + 1) listed a w := by
  induction f with
  | zero =>
    intro listed a w hC _ hr hp H
    refine ⟨fun h => (by rw [h] at hr; cases hr), fun j hj => ?_⟩
    by_cases hji : j = i
    · subst hji; exact hp.op hi hC ⟨hC, H⟩
    · have := ready_mono hj hji
      rw [H.1] at this
      cases this
  | succ f ih =>
    intro listed a w hC hfree hr hp H
    refine ⟨fun h => (by rw [h] at hr; cases hr), fun j hj => ?_⟩
    by_cases hji : j = i
    · subst hji; exact hp.op hi hC ⟨hC, H⟩
    · obtain ⟨hjun, oj, hoj, hall⟩ := mem_ready.1 hj
      have hun := (mem_ready.1 hr).1
      have hnot : ∀ e ∈ oj.after, Region.binds md e = true → e.on ≠ i := fun e he hb heq => by
        have h1 := hall e he hb
        rw [heq, getD_both hun] at h1
        cases h1
      have hap := hfree j oj hoj hji hjun hnot
      obtain ⟨h1, h2, h3⟩ := Oper.apart_spec hap
      have keep : ∀ (a : Act) u, CalmV P ops C oi v a → CalmV P ops C oi v (a.put oj.dst u) := fun a u hp => by
        unfold CalmV at *
        rw [execOp_put oi (fun cs b => hsel i oi cs b hi) a oj.dst u h3, wanted_put oi a oj.dst u h3]
        exact hp
      refine wpOp_mono (fun a' w' h3 => ⟨h3.2.1, ih (listed.setIfInBounds j true) a' w' h3.2.1 (fun k ok hk hki hku hno => hfree k ok hk hki ?_ hno) (ready_mono hr (Ne.symm hji)) h3.1 ?_⟩)
        (wpOp_keep (CalmV P ops C oi v) hoj hap (fun cs b => hsel i oi cs b hi) (fun cs b => hsel j oj cs b hoj) keep (fun _ _ h => h) hp (H.2 j (ready_mono hj hji)))
      · by_cases hjk : j = k
        · subst hjk; exact hjun
        · rwa [getD_set_ne true hjk] at hku
      · rw [Array.setIfInBounds_comm _ _ hji]; exact h3.2.2

def treeCB (md : Region.Mode) (ops : Array Oper) : Scc → Array Bool → Bool
  | .done, listed => (Region.ready md ops listed).isEmpty
  | .calm k s, listed => (Region.ready md ops listed).contains k && Region.free md ops listed k && treeCB md ops s (listed.setIfInBounds k true)
  | .only k s, listed => decide (Region.ready md ops listed = [k]) && treeCB md ops s (listed.setIfInBounds k true)
  | .two j k s t, listed => decide (Region.ready md ops listed = [j, k]) && decide (s.len = t.len) && treeCB md ops s (listed.setIfInBounds j true) && treeCB md ops t (listed.setIfInBounds k true)
  | .three i j k r s t, listed => decide (Region.ready md ops listed = [i, j, k]) && decide (r.len = s.len) && decide (r.len = t.len) && treeCB md ops r (listed.setIfInBounds i true) && treeCB md ops s (listed.setIfInBounds j true) && treeCB md ops t (listed.setIfInBounds k true)
def treeCW (P : Program) (ops : Array Oper) (C : World → Prop) (Kf : Act → World → Prop) : Scc → Act → World → Prop
  | .done, a, w => Kf a w
  | .calm k s, a, w => ∃ (o : Oper) (d : Option Tmp) (v : Value), ops[k]? = some o ∧ o.dst = d ∧ CalmV P ops C o v a ∧ treeCW P ops C Kf s (a.put d v) w
  | .only k s, a, w => ∃ o : Oper, ops[k]? = some o ∧ wpList P ops (Qn fun a w => C w ∧ treeCW P ops C Kf s a w) [o] a w
  | .two j k s t, a, w => (∃ o : Oper, ops[j]? = some o ∧ wpList P ops (Qn fun a w => C w ∧ treeCW P ops C Kf s a w) [o] a w) ∧ ∃ o : Oper, ops[k]? = some o ∧ wpList P ops (Qn fun a w => C w ∧ treeCW P ops C Kf t a w) [o] a w
  | .three i j k r s t, a, w => (∃ o : Oper, ops[i]? = some o ∧ wpList P ops (Qn fun a w => C w ∧ treeCW P ops C Kf r a w) [o] a w) ∧ (∃ o : Oper, ops[j]? = some o ∧ wpList P ops (Qn fun a w => C w ∧ treeCW P ops C Kf s a w) [o] a w) ∧ ∃ o : Oper, ops[k]? = some o ∧ wpList P ops (Qn fun a w => C w ∧ treeCW P ops C Kf t a w) [o] a w

theorem op_of_list {Kf : Act → World → Prop} {k : Nat} {o : Oper} {s : Scc} {listed : Array Bool} {a : Act} {w : World} {n : Nat} (ho : ops[k]? = some o) (h : wpList P ops (Qn fun a w => C w ∧ treeCW P ops C Kf s a w) [o] a w)
    (ih : ∀ a' w', C w' → treeCW P ops C Kf s a' w' → wpAnyC P md ops C Kf n (listed.setIfInBounds k true) a' w') :
    wpOp P ops (Qn fun _ _ => False) k (fun a' w' => C w' ∧ wpAnyC P md ops C Kf n (listed.setIfInBounds k true) a' w') a w := by
  have hw : wpOp P ops (Qn fun a w => C w ∧ treeCW P ops C Kf s a w) k (wpList P ops (Qn fun a w => C w ∧ treeCW P ops C Kf s a w) []) a w := by unfold wpOp; simp only [ho]; exact h
  exact wpOp_qn (fun a' w' h' => ⟨h'.2.1, ih a' w' h'.2.1 h'.2.2⟩) hw

theorem any_treeC {Kf : Act → World → Prop} (hsel : Region.noSelect ops = true) (s : Scc) :
    ∀ (listed : Array Bool) (a : Act) (w : World), C w → treeCB md ops s listed = true → treeCW P ops C Kf s a w → wpAnyC P md ops C Kf s.len listed a w := by
  induction s with
  | done =>
    intro listed a w _ hB h
    exact ⟨by simpa [treeCB] using hB, h⟩
  | calm k s ih =>
    intro listed a w hC hB h
    obtain ⟨o, d, v, ho, hd, hp, hrest⟩ := h
    subst hd
    simp only [treeCB, Bool.and_eq_true] at hB
    exact calm_first ho (Region.noSelect_spec hsel) _ listed a w hC (Region.free_spec ho hB.1.2) (by simpa using hB.1.1) hp (ih _ _ _ hC hB.2 hrest)
  | only k s ih =>
    intro listed a w hC hB h
    obtain ⟨o, ho, h⟩ := h
    simp only [treeCB, Bool.and_eq_true, decide_eq_true_eq] at hB
    refine ⟨fun h1 => (by rw [hB.1] at h1; cases h1), fun i hi => ?_⟩
    rw [hB.1] at hi
    obtain rfl : i = k := by simpa using hi
    exact op_of_list ho h (fun a' w' hc ht => ih _ a' w' hc hB.2 ht)
  | two j k s t ihs iht =>
    intro listed a w hC hB h
    obtain ⟨⟨o, ho, h1⟩, ⟨o', ho', h2⟩⟩ := h
    simp only [treeCB, Bool.and_eq_true, decide_eq_true_eq] at hB
    obtain ⟨⟨⟨hr, hl⟩, hs⟩, ht⟩ := hB
    refine ⟨fun h1 => (by rw [hr] at h1; cases h1), fun i hi => ?_⟩
    rw [hr] at hi
    simp only [List.mem_cons, List.not_mem_nil, or_false] at hi
    rcases hi with rfl | rfl
    · exact op_of_list ho h1 (fun a' w' hc h' => ihs _ a' w' hc hs h')
    · exact op_of_list ho' h2 (fun a' w' hc h' => by have := iht _ a' w' hc ht h'; rwa [← hl] at this)
  | three p j k r s t ihr ihs iht =>
    intro listed a w hC hB h
    obtain ⟨⟨o0, ho0, h0⟩, ⟨o, ho, h1⟩, ⟨o', ho', h2⟩⟩ := h
    simp only [treeCB, Bool.and_eq_true, decide_eq_true_eq] at hB
    obtain ⟨⟨⟨⟨⟨hr, hl⟩, hl2⟩, h3⟩, hs⟩, ht⟩ := hB
    refine ⟨fun h1 => (by rw [hr] at h1; cases h1), fun i hi => ?_⟩
    rw [hr] at hi
    simp only [List.mem_cons, List.not_mem_nil, or_false] at hi
    rcases hi with rfl | rfl | rfl
    · exact op_of_list ho0 h0 (fun a' w' hc h' => ihr _ a' w' hc h3 h')
    · exact op_of_list ho h1 (fun a' w' hc h' => by have := ihs _ a' w' hc hs h'; rwa [← hl] at this)
    · exact op_of_list ho' h2 (fun a' w' hc h' => by have := iht _ a' w' hc ht h'; rwa [← hl2] at this)

/-- A region that draws its order, by a script with calm operations, to what is known at its end. -/
theorem region_calm {id : Nat} {Q : Exit → Act → World → Prop} {a : Act} {w : World} {l : List Oper} (C : World → Prop) (R : Act → World → Prop) (s : Scc) (hm : P.follows .mixedOrders = true) (hsel : Region.noSelect l.toArray = true)
    (hB : treeCB .any l.toArray s (Array.replicate l.toArray.size false) = true) (hlen : s.len = l.length) (hC : C w.drew)
    (h : treeCW P l.toArray C R s a w.drew) (hQ : ∀ a' w', R a' w' → Q .normal a' w') : (Code.region id l.toArray true).wp P Q a w := by
  refine wp_region_any hm ?_
  have := any_of_C _ _ _ _ (any_treeC (P := P) (md := .any) (Kf := R) hsel s _ a w.drew hC hB h)
  rw [hlen] at this
  have e := any_qn hQ _ _ _ _ this
  simpa using e
end
end Go.Proofs.Ytffknldagconmaa.Qt
namespace Go.Proofs.Ytffknldagconmaa
set_option linter.unusedVariables false
open Go.RowKit Go.Sort

theorem below_drew (w : World) : Below w.heap.size w w.drew := ⟨rfl, rfl, rfl, Nat.le_refl _, fun k _ => rfl⟩
/-- A region that draws its order, by a script with calm operations, to what is known at its end. -/
theorem region_calm_to {P : Program} {id : Nat} {Q : Exit → Act → World → Prop} {a : Act} {w : World} {l : List Oper} (C : World → Prop) (R : Act → Act → World → Prop) (s : Qt.Scc) (hm : P.follows .mixedOrders = true) (hsel : Region.noSelect l.toArray = true)
    (hB : Qt.treeCB .any l.toArray s (Array.replicate l.toArray.size false) = true) (hlen : s.len = l.length) (hC : C w.drew)
    (h : Qt.treeCW P l.toArray C (R a) s a w.drew) (hQ : ∀ a' w', R a a' w' → Q .normal a' w') : (Code.region id l.toArray true).wp P Q a w :=
  Qt.region_calm C (R a) s hm hsel hB hlen hC h hQ
end Go.Proofs.Ytffknldagconmaa
