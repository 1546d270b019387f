/-
  Texts that the claims of this seat share, part 8.
-/
import Derived.Test.YtocepdhjkhhpfaaB07
import Derived.Test.YtocepdhjkhhpfaaB06
set_option linter.unusedVariables false
set_option linter.unusedSimpArgs false
namespace Go.Proofs.Ytocepdhjkhhpfaa
set_option maxRecDepth 100000
set_option linter.unusedVariables false
set_option linter.unusedSimpArgs false
open Go.RowKit Go.Sort

theorem hNextLoaded_any {w : World} {b : Nat} {u : W8} {S N : Int} {sl mp : Value} (h : HaAt w b u S N sl mp) (x : Int) (dn : Bool) (hpc : u.pc = 11) : Calls Try.prog 99 #[.pointer (some ⟨b, 0, none⟩), .int .i64 x, .bool dn] w (SetR8 b (behP S u x dn) S N sl mp w) := by
  have hc := h.cs
  have c0 := hc.c0
  have c9 := hc.c9
  have f0 := h.fz 0
  have f9 := h.fz 9
  clear hc
  have H := Lib.hid h.hg
  clear h
  have e : behP S u x dn = { u with r7 := x, pc := 12 } := by unfold behP; simp [hpc]
  rw [e]
  clear e
  go_enter Try.func99, Try.ntmps99
  go_wp2
  go_end0
  exact ⟨rfl, (H.out.put9 x).put0 12⟩
theorem hGiveLoaded_any {w : World} {b : Nat} {u : W8} {S N : Int} {sl mp : Value} (h : HaAt w b u S N sl mp) (x : Int) (dn : Bool) (hpc : u.pc = 30) : Calls Try.prog 106 #[.pointer (some ⟨b, 0, none⟩), .int .i64 x, .bool dn] w (SetR8 b (behP S u x dn) S N sl mp w) := by
  have hc := h.cs
  have c0 := hc.c0
  have c8 := hc.c8
  have f0 := h.fz 0
  have f8 := h.fz 8
  clear hc
  have H := Lib.hid h.hg
  clear h
  have e : behP S u x dn = { u with r6 := x, pc := 31 } := by unfold behP; simp [hpc]
  rw [e]
  clear e
  go_enter Try.func106, Try.ntmps106
  go_wp2
  go_end0
  exact ⟨rfl, (H.out.put8 x).put0 31⟩
theorem hNextStored_any {w : World} {b : Nat} {u : W8} {S N : Int} {sl mp : Value} (h : HaAt w b u S N sl mp) (x : Int) (dn : Bool) (hpc : u.pc = 31) : Calls Try.prog 108 #[.pointer (some ⟨b, 0, none⟩), .int .i64 x, .bool dn] w (SetR8 b (behP S u x dn) S N sl mp w) := by
  have hc := h.cs
  have c0 := hc.c0
  have f0 := h.fz 0
  clear hc
  have H := Lib.hid h.hg
  clear h
  have e : behP S u x dn = { u with pc := 32 } := by unfold behP; simp [hpc]
  rw [e]
  clear e
  go_enter Try.func108, Try.ntmps108
  go_wp2
  go_end0
  exact ⟨rfl, H.out.put0 32⟩
theorem hSwappedIn_any {w : World} {b : Nat} {u : W8} {S N : Int} {sl mp : Value} (h : HaAt w b u S N sl mp) (x : Int) (dn : Bool) (hpc : u.pc = 32) : Calls Try.prog 110 #[.pointer (some ⟨b, 0, none⟩), .int .i64 x, .bool dn] w (SetR8 b (behP S u x dn) S N sl mp w) := by
  have hc := h.cs
  have c0 := hc.c0
  have c7 := hc.c7
  have c10 := hc.c10
  have f0 := h.fz 0
  have f7 := h.fz 7
  have f10 := h.fz 10
  clear hc
  have H := Lib.hid h.hg
  clear h
  have e : behP S u x dn = if dn = true then { u with pc := 32, r5 := 0, done := true } else { u with pc := 30 } := by unfold behP; simp [hpc]
  rw [e]
  clear e
  cases dn with
  | true =>
    rw [if_pos rfl]
    go_enter Try.func110, Try.ntmps110
    go_wp2
    go_end0
    rw [show ({ u with pc := 32, r5 := 0, done := true } : W8) = { u with r5 := 0, done := true } by rw [← hpc]]
    exact ⟨rfl, (H.out.put7 0).put10 true⟩
  | false =>
    rw [if_neg (by decide)]
    go_enter Try.func110, Try.ntmps110
    go_wp2
    go_end0
    exact ⟨rfl, H.out.put0 30⟩
theorem hSlotSwapped_any {w : World} {b : Nat} {u : W8} {S N : Int} {sl mp : Value} (h : HaAt w b u S N sl mp) (x : Int) (dn : Bool) (hpc : u.pc = 20) (h5 : 0 ≤ u.r5 ∧ u.r5 ≤ 1048576) : Calls Try.prog 105 #[.pointer (some ⟨b, 0, none⟩), .int .i64 x, .bool dn] w (SetR8 b (behP S u x dn) S N sl mp w) := by
  have hc := h.cs
  have c0 := hc.c0
  have c7 := hc.c7
  have c10 := hc.c10
  have c11 := hc.c11
  have f0 := h.fz 0
  have f10 := h.fz 10
  have f11 := h.fz 11
  clear hc
  have H := Lib.hid h.hg
  clear h
  have e : behP S u x dn = if dn = true then { u with done := true, out := u.r5 - 1 } else { u with pc := 0 } := by unfold behP; simp [hpc]
  rw [e]
  clear e
  obtain ⟨h51, h52⟩ := h5
  cases dn with
  | true =>
    rw [if_pos rfl]
    go_enter Try.func105, Try.ntmps105
    go_wp2
    go_end0
    exact ⟨rfl, (H.out.put10 true).put11 (u.r5 - 1)⟩
  | false =>
    rw [if_neg (by decide)]
    go_enter Try.func105, Try.ntmps105
    go_wp2
    go_end0
    exact ⟨rfl, H.out.put0 0⟩
theorem hKidStored_any {w : World} {b : Nat} {u : W8} {S N : Int} {sl mp : Value} (h : HaAt w b u S N sl mp) (x : Int) (dn : Bool) (hpc : u.pc = 13) (h7 : 0 ≤ u.r7) (h7b : u.r7 ≤ 3) : Calls Try.prog 103 #[.pointer (some ⟨b, 0, none⟩), .int .i64 x, .bool dn] w (SetR8 b (behP S u x dn) S N sl mp w) := by
  have hc := h.cs
  have c0 := hc.c0
  have c9 := hc.c9
  have f0 := h.fz 0
  have f9 := h.fz 9
  clear hc
  have H := Lib.hid h.hg
  clear h
  have e : behP S u x dn = if u.r7 + 1 = 4 then { u with r7 := u.r7 + 1, pc := 20 } else { u with r7 := u.r7 + 1 } := by unfold behP; simp [hpc]
  rw [e]
  clear e hpc
  by_cases hz : u.r7 + 1 = 4
  · rw [if_pos hz]
    rw [show ({ u with r7 := u.r7 + 1, pc := 20 } : W8) = { u with r7 := 4, pc := 20 } by rw [hz]]
    go_enter Try.func103, Try.ntmps103
    go_wp2
    go_region
    have H1 := Lib.hid (H.out.put9 4).drew
    generalize (w.setCell ⟨b, 9, none⟩ (.int .i64 4)).drew = W at *
    have c0' := H1.out.hat.cs.c0
    have c9' := H1.out.hat.cs.c9
    have f0' := H1.out.hat.fz 0
    clear c0 c9 f0 f9 H
    go_wp2
    go_end0
    exact ⟨rfl, H1.out.put0 20⟩
  · rw [if_neg hz]
    go_enter Try.func103, Try.ntmps103
    go_wp2
    go_region
    have H1 := Lib.hid (H.out.put9 (u.r7 + 1)).drew
    generalize (w.setCell ⟨b, 9, none⟩ (.int .i64 (u.r7 + 1))).drew = W at *
    have c0' := H1.out.hat.cs.c0
    have c9' := H1.out.hat.cs.c9
    have f0' := H1.out.hat.fz 0
    clear c0 c9 f0 f9 H
    go_wp2
    go_end0
    exact ⟨rfl, H1.out⟩
theorem hTakeLoaded_any {w : World} {b : Nat} {u : W8} {S N : Int} {sl mp : Value} (h : HaAt w b u S N sl mp) (x : Int) (dn : Bool) (hx : WdI x) (hpc : u.pc = 10) : Calls Try.prog 97 #[.pointer (some ⟨b, 0, none⟩), .int .i64 x, .bool dn] w (SetR8 b (behP S u x dn) S N sl mp w) := by
  have hc := h.cs
  have c0 := hc.c0
  have c8 := hc.c8
  have f0 := h.fz 0
  have f8 := h.fz 8
  clear hc
  have H := Lib.hid h.hg
  clear h
  have e : behP S u x dn = if hdH x = 0 then endP { u with r6 := x } (-1) else { u with r6 := x, pc := 11 } := by unfold behP; simp [hpc]
  rw [e]
  clear e
  have hs := Lib.hid (And.intro trivial fun W => split_any x W hx.i64)
  have hE := Lib.hid (And.intro trivial fun (W : World) (v : W8) (hv : HaAt W b v S N sl mp) => hEndWith_any hv (-1))
  have hb := hdH_bd x
  obtain ⟨h, hh⟩ : ∃ h, h = hdH x := ⟨_, rfl⟩
  obtain ⟨c, hc⟩ : ∃ c, c = hdC x := ⟨_, rfl⟩
  rw [← hh, ← hc] at hs
  rw [← hh] at hb ⊢
  clear hh hc
  by_cases hz : h = 0
  · rw [if_pos hz]
    subst hz
    go_enter Try.func97, Try.ntmps97
    go_wp2_with fail
    refine (hs.out.2 _).mono ?_
    rintro e w1 ⟨rfl, rfl⟩
    have H1 := Lib.hid (H.out.put8 x)
    go_wp2_with fail
    refine (hE.out.2 _ _ H1.out.hat).mono ?_
    rintro e w2 ⟨rfl, H2⟩
    go_wp2
    go_end0
    exact ⟨rfl, H2.hat, H1.out.gr.trans H2.gr⟩
  · rw [if_neg hz]
    go_enter Try.func97, Try.ntmps97
    go_wp2_with fail
    refine (hs.out.2 _).mono ?_
    rintro e w1 ⟨rfl, rfl⟩
    go_wp2
    go_end0
    exact ⟨rfl, (H.out.put8 x).put0 11⟩
theorem hSwappedOut_any {w : World} {b : Nat} {u : W8} {S N : Int} {sl mp : Value} (h : HaAt w b u S N sl mp) (x : Int) (dn : Bool) (h6 : WdI u.r6) (hpc : u.pc = 12) : Calls Try.prog 101 #[.pointer (some ⟨b, 0, none⟩), .int .i64 x, .bool dn] w (SetR8 b (behP S u x dn) S N sl mp w) := by
  have hc := h.cs
  have c0 := hc.c0
  have c7 := hc.c7
  have c8 := hc.c8
  have c9 := hc.c9
  have f0 := h.fz 0
  have f7 := h.fz 7
  have f9 := h.fz 9
  clear hc
  have H := Lib.hid h.hg
  clear h
  have e : behP S u x dn = if dn = true then { u with r5 := hdH u.r6, r7 := 0, pc := 13 } else { u with pc := 10 } := by unfold behP; simp [hpc]
  rw [e]
  clear e
  have hs := Lib.hid (And.intro trivial fun W => split_any u.r6 W h6.i64)
  have k8 := Qt.cell_in c8
  obtain ⟨h, hh⟩ : ∃ h, h = hdH u.r6 := ⟨_, rfl⟩
  obtain ⟨c, hc⟩ : ∃ c, c = hdC u.r6 := ⟨_, rfl⟩
  rw [← hh, ← hc] at hs
  rw [← hh]
  clear hh hc h6
  cases dn with
  | true =>
    rw [if_pos rfl]
    clear c8
    go_enter Try.func101, Try.ntmps101
    go_wp2
    refine Qt.below_tail 15 (by kernel_rfl) (by kernel_rfl) ?_
    simp only [List.take_succ_cons, List.take_zero, List.drop_succ_cons, List.drop_zero]
    iterate 15 (go_big_quiet_step (first | (go_at_call 45; exact Qt.at_same fun W _ => hs.out.2 W)))
    refine wpQuiet_nil ?_
    intro w1 hb1
    have H1 := Lib.hid (H.out.below hb1)
    have d0 := H1.out.hat.cs.c0
    have d7 := H1.out.hat.cs.c7
    have d9 := H1.out.hat.cs.c9
    have g0 := H1.out.hat.fz 0
    have g7 := H1.out.hat.fz 7
    have g9 := H1.out.hat.fz 9
    clear c0 c7 c9 f0 f7 f9 k8 H
    go_wp2
    go_end0
    exact ⟨rfl, ((H1.out.put7 h).put9 0).put0 13⟩
  | false =>
    rw [if_neg (by decide)]
    clear k8
    go_enter Try.func101, Try.ntmps101
    go_wp2
    go_end0
    exact ⟨rfl, H.out.put0 10⟩
end Go.Proofs.Ytocepdhjkhhpfaa
namespace Go.Proofs.Ytocepdhjkhhpfaa
set_option maxRecDepth 100000
set_option linter.unusedVariables false
set_option linter.unusedSimpArgs false

theorem doA_swapAt {m : List Int} {a old new : Int} (h0 : 0 ≤ a) (h1 : a < m.length) (hl : m.length ≤ 100000) (hn : WdI new) : doA m (3, a, old, new) = if m.getD a.toNat 0 ≠ old then (m, m.getD a.toNat 0, false, 0) else (m.set a.toNat new, m.getD a.toNat 0, true, 0) := by
  have e : ∀ x, toA (3, a, old, new) x = new := fun x => by unfold toA; rw [if_neg (by simp)]
  unfold doA
  rw [if_neg (by simp [knownA]; omega), if_neg (by simp only; omega), if_neg (by simp)]
  simp only [e]
  rw [if_neg (by rw [wdI_may.1 hn]; decide)]
  by_cases h : m.getD a.toNat 0 = old
  · rw [if_neg (fun hc => hc.2 h), if_neg (fun hc => hc h)]
  · rw [if_pos ⟨trivial, h⟩, if_pos h]
theorem getD_set8 (l : List Int) (i j : Nat) (x : Int) : (l.set i x).getD j 0 = if i = j ∧ i < l.length then x else l.getD j 0 := by
  rw [List.getD_eq_getElem?_getD, List.getElem?_set]
  by_cases h : i = j
  · subst h
    by_cases hl : i < l.length
    · rw [if_pos rfl, if_pos hl, if_pos ⟨rfl, hl⟩]; rfl
    · rw [if_pos rfl, if_neg hl, if_neg (fun hc => hl hc.2), List.getD_eq_getElem?_getD, List.getElem?_eq_none (by omega)]
  · rw [if_neg h, if_neg (fun hc => h hc.1), List.getD_eq_getElem?_getD]
/-- the kids up to one, written from b on -/
def wrK (m : List Int) (b : Nat) (k : Kd) : Nat → List Int
  | 0 => m
  | j + 1 => (wrK m b k j).set (b + j) (kdH k j)
theorem wrK_len (m : List Int) (b : Nat) (k : Kd) (j : Nat) : (wrK m b k j).length = m.length := by
  induction j with
  | zero => rfl
  | succ j ih => unfold wrK; rw [List.length_set, ih]
theorem wrK_get {m : List Int} {b : Nat} {k : Kd} (hb : b + 4 ≤ m.length) {i : Nat} : ∀ j, j ≤ 4 → (wrK m b k j).getD i 0 = if b ≤ i ∧ i < b + j then kdH k (i - b) else m.getD i 0 := by
  intro j
  induction j with
  | zero => intro _; rw [if_neg (by omega)]; rfl
  | succ j ih =>
    intro hj
    show ((wrK m b k j).set (b + j) (kdH k j)).getD i 0 = _
    rw [getD_set8, wrK_len, ih (by omega)]
    by_cases h : b + j = i
    · rw [if_pos ⟨h, by omega⟩, if_pos (by omega), ← h, Nat.add_sub_cancel_left]
    · rw [if_neg (fun hc => h hc.1)]
      by_cases h2 : b ≤ i ∧ i < b + j
      · rw [if_pos h2, if_pos (by omega)]
      · rw [if_neg h2, if_neg (by omega)]
/-- a worker that writes kids, from the j-th on -/
structure PutW8 (k : Kd) (p n j : Nat) (w : W8) : Prop where
  kd : kdW8 w = k
  r4 : w.r4 = p
  r5 : w.r5 = (n : Int) + 1
  r7 : w.r7 = j
  pc : w.pc = 13
  done : w.done = false
/-- .. that would fill its slot -/
structure FillW (k : Kd) (p n : Nat) (w : W8) : Prop where
  kd : kdW8 w = k
  r4 : w.r4 = p
  r5 : w.r5 = (n : Int) + 1
  pc : w.pc = 20
  done : w.done = false
theorem put_run {S N : Nat} {m : List Int} (hlen : m.length = S + 5 * N + 1) (hs2 : S ≤ 4000) (hn2 : N ≤ 1000) {k : Kd} (hk : ∀ i, i < 4 → WdI (kdH k i)) {p n : Nat} (hn : n < N) : ∀ (d j : Nat) (w : W8), j + d = 4 → j < 4 → PutW8 k p n j w →
    ∃ w', Alone8 S N (wrK m (S + 4 * n) k j) w d (wrK m (S + 4 * n) k 4) w' ∧ FillW k p n w' := by
  intro d
  induction d with
  | zero => intro j w hd hj; omega
  | succ d ih =>
    intro j w hd hj hw
    have hll := wrK_len m (S + 4 * n) k j
    have hacc : accP S N w = (2, ((S + 4 * n + j : Nat) : Int), 0, kdH k j) := by
      unfold accP kidP
      rw [if_neg (by rw [hw.pc]; decide), if_neg (by rw [hw.pc]; decide), if_neg (by rw [hw.pc]; decide), if_neg (by rw [hw.pc]; decide), if_neg (by rw [hw.pc]; decide), if_pos hw.pc, hw.r5, hw.r7, hw.kd, Int.toNat_natCast, if_neg (by omega)]
      have : ((S : Int) + 4 * ((n : Int) + 1 - 1) + (j : Int)) = ((S + 4 * n + j : Nat) : Int) := by omega
      rw [this]
    have hdo := doA_write (m := wrK m (S + 4 * n) k j) (a := ((S + 4 * n + j : Nat) : Int)) (v := kdH k j) (by omega) (by omega) (by omega) (hk j hj)
    have hb : ∀ x, behP S w x true = if (j : Int) + 1 = 4 then { w with r7 := w.r7 + 1, pc := 20 } else { w with r7 := w.r7 + 1 } := fun x => by
      unfold behP
      rw [if_neg (by rw [hw.pc]; decide), if_neg (by rw [hw.pc]; decide), if_neg (by rw [hw.pc]; decide), if_neg (by rw [hw.pc]; decide), if_neg (by rw [hw.pc]; decide), if_pos hw.pc, hw.r7]
    have hst : stepP S N (wrK m (S + 4 * n) k j) w = (wrK m (S + 4 * n) k (j + 1), if (j : Int) + 1 = 4 then { w with r7 := w.r7 + 1, pc := 20 } else { w with r7 := w.r7 + 1 }, 0) := by
      unfold stepP
      rw [hacc, hdo, Int.toNat_natCast, hb]
      rfl
    by_cases hj4 : j + 1 = 4
    · rw [if_pos (by omega)] at hst
      obtain rfl : d = 0 := by omega
      obtain rfl : j = 3 := by omega
      exact ⟨_, .step hw.done hst (.nil _ _), hw.kd, hw.r4, hw.r5, rfl, hw.done⟩
    · rw [if_neg (by omega)] at hst
      obtain ⟨w', h1, h2⟩ := ih (j + 1) { w with r7 := w.r7 + 1 } (by omega) (by omega) ⟨hw.kd, hw.r4, hw.r5, (by show w.r7 + 1 = _; rw [hw.r7]; omega), hw.pc, hw.done⟩
      exact ⟨w', .step hw.done hst h1, h2⟩
/-- nodes behind each other, from the word o on -/
def ChainO (o : Nat) (m : List Int) : List Nat → Prop
  | [] => True
  | x :: r => m.getD (o + x + 1) 0 = topF r ∧ ChainO o m r
theorem ChainO.congr {o : Nat} {m m' : List Int} (he : ∀ i, o < i → m'.getD i 0 = m.getD i 0) : ∀ {F : List Nat}, ChainO o m F → ChainO o m' F
  | [], _ => trivial
  | _ :: _, h => ⟨(he _ (by omega)).trans h.1, ChainO.congr he h.2⟩
structure FreeP (S N c : Nat) (m : List Int) (F : List Nat) : Prop where
  head : m.getD (S + 4 * N) 0 = (c : Int) * 1048576 + topF F
  chain : ChainO (S + 4 * N) m F
  lt : ∀ x ∈ F, x < N
/-- the words, a node taken for kids, at a slot -/
def tookP (S N c : Nat) (m : List Int) (k : Kd) (n : Nat) (r : List Nat) (a : Nat) : List Int := (wrK (m.set (S + 4 * N) (((c : Int) + 1) * 1048576 + topF r)) (S + 4 * n) k 4).set a ((n : Int) + 1)
theorem take_run {S N c : Nat} {m : List Int} {F : List Nat} (h : TabL S N m) (hf : FreeP S N c m F) (hc : c ≤ 1000000) {k : Kd} (hk : ∀ i, i < 4 → WdI (kdH k i)) {p : Nat} (hp : p < S) {w : W8} (hw : FreeW k p w) (hz : m.getD (atP S k p) 0 = 0) :
    (F = [] ∧ ∃ w', Alone8 S N m w 1 m w' ∧ EndW k (-1) w') ∨ (∃ n r, F = n :: r ∧ ∃ w', Alone8 S N m w 8 (tookP S N c m k n r (atP S k p)) w' ∧ w'.done = true ∧ w'.out = n) := by
  have hl := h.len
  have hs1 := h.s1
  have hs2 := h.s2
  have hn2 := h.n2
  have hat : atP S k p < S := Nat.mod_lt _ (by omega)
  have hpc : w.pc = 10 := hw.pc
  have htop := topF_bd hf.lt
  have hacc : accP S N w = (1, ((S + 4 * N : Nat) : Int), 0, 0) := by
    unfold accP
    rw [if_neg (by rw [hpc]; decide), if_neg (by rw [hpc]; decide), if_pos (.inl hpc)]
    have : ((S : Int) + 4 * (N : Int)) = ((S + 4 * N : Nat) : Int) := by omega
    rw [this]
  have hst := stepP_load hacc (m := m) (by omega) (by omega)
  rw [hf.head] at hst
  have hH : hdH ((c : Int) * 1048576 + topF F) = topF F := head_H htop.1 (by omega)
  have hb : behP S w ((c : Int) * 1048576 + topF F) true = if topF F = 0 then endP { w with r6 := (c : Int) * 1048576 + topF F } (-1) else { w with r6 := (c : Int) * 1048576 + topF F, pc := 11 } := by
    unfold behP
    rw [if_neg (by rw [hpc]; decide), if_neg (by rw [hpc]; decide), if_pos hpc, hH]
  rw [hb] at hst
  cases F with
  | nil =>
    rw [if_pos (show topF [] = 0 from rfl)] at hst
    refine .inl ⟨rfl, _, .step hw.done hst (.nil _ _), ?_⟩
    unfold endP
    rw [if_pos (show ({ w with r6 := (c : Int) * 1048576 + topF [] } : W8).r5 = 0 from hw.r5)]
    exact ⟨hw.kd, rfl, hw.r5, rfl⟩
  | cons n r =>
    have hnN : n < N := hf.lt n (by simp)
    have ht : topF (n :: r) = (n : Int) + 1 := rfl
    rw [ht] at hst htop hH
    rw [if_neg (by omega)] at hst
    have htr := topF_bd (n := N) (F := r) (fun x hx => hf.lt x (by simp [hx]))
    obtain ⟨w1, hw1⟩ : ∃ w1 : W8, w1 = { w with r6 := (c : Int) * 1048576 + ((n : Int) + 1), pc := 11 } := ⟨_, rfl⟩
    rw [← hw1] at hst
    -- the node behind
    have p1 : w1.pc = 11 := by rw [hw1]
    have q1 : w1.r6 = (c : Int) * 1048576 + ((n : Int) + 1) := by rw [hw1]
    have d1 : w1.done = false := by rw [hw1]; exact hw.done
    have k1 : kdW8 w1 = k := by rw [hw1]; exact hw.kd
    have g1 : w1.r4 = p := by rw [hw1]; exact hw.r4
    clear hw1
    have hacc1 : accP S N w1 = (1, ((S + 4 * N + n + 1 : Nat) : Int), 0, 0) := by
      unfold accP
      rw [if_neg (by rw [p1]; decide), if_neg (by rw [p1]; decide), if_neg (by rw [p1]; decide), if_pos p1, q1, hH]
      have : ((S : Int) + 4 * (N : Int) + ((n : Int) + 1)) = ((S + 4 * N + n + 1 : Nat) : Int) := by omega
      rw [this]
    have hst1 := stepP_load hacc1 (m := m) (by omega) (by omega)
    rw [hf.chain.1] at hst1
    obtain ⟨w2, hw2⟩ : ∃ w2 : W8, w2 = { w1 with r7 := topF r, pc := 12 } := ⟨_, rfl⟩
    have hb1 : behP S w1 (topF r) true = w2 := by
      rw [hw2]
      unfold behP
      rw [if_neg (by rw [p1]; decide), if_neg (by rw [p1]; decide), if_neg (by rw [p1]; decide), if_pos p1]
    rw [hb1] at hst1
    have p2 : w2.pc = 12 := by rw [hw2]
    have q2 : w2.r6 = (c : Int) * 1048576 + ((n : Int) + 1) := by rw [hw2]; exact q1
    have q7 : w2.r7 = topF r := by rw [hw2]
    have d2 : w2.done = false := by rw [hw2]; exact d1
    have k2 : kdW8 w2 = k := by rw [hw2]; exact k1
    have g2 : w2.r4 = p := by rw [hw2]; exact g1
    clear hw2
    -- the swap of the head
    have hacc2 : accP S N w2 = (3, ((S + 4 * N : Nat) : Int), (c : Int) * 1048576 + ((n : Int) + 1), ((c : Int) + 1) * 1048576 + topF r) := by
      unfold accP
      rw [if_neg (by rw [p2]; decide), if_neg (by rw [p2]; decide), if_neg (by rw [p2]; decide), if_neg (by rw [p2]; decide), if_pos p2, q2, q7, head_C (c := c) htop.1 (show (n : Int) + 1 ≤ 1000 by omega)]
      have : ((S : Int) + 4 * (N : Int)) = ((S + 4 * N : Nat) : Int) := by omega
      rw [this]
    have hdo := doA_swapAt (m := m) (a := ((S + 4 * N : Nat) : Int)) (old := (c : Int) * 1048576 + ((n : Int) + 1)) (new := ((c : Int) + 1) * 1048576 + topF r) (by omega) (by omega) (by omega) (by unfold WdI; omega)
    rw [Int.toNat_natCast, if_neg (by rw [hf.head, ht]; simp)] at hdo
    have hst2 : stepP S N m w2 = (m.set (S + 4 * N) (((c : Int) + 1) * 1048576 + topF r), { w2 with r5 := (n : Int) + 1, r7 := 0, pc := 13 }, 0) := by
      have hb2 : ∀ x, behP S w2 x true = { w2 with r5 := (n : Int) + 1, r7 := 0, pc := 13 } := fun x => by
        unfold behP
        rw [if_neg (by rw [p2]; decide), if_neg (by rw [p2]; decide), if_neg (by rw [p2]; decide), if_neg (by rw [p2]; decide), if_pos p2, if_pos rfl, q2, hH]
      unfold stepP
      rw [hacc2, hdo, hb2]
      rfl
    obtain ⟨w4, hrun, hw4⟩ := put_run (m := m.set (S + 4 * N) (((c : Int) + 1) * 1048576 + topF r)) (S := S) (N := N) (k := k) (p := p) (n := n) (by rw [List.length_set]; exact hl) hs2 hn2 hk hnN 4 0 { w2 with r5 := (n : Int) + 1, r7 := 0, pc := 13 } rfl (by omega) ⟨k2, g2, rfl, rfl, rfl, d2⟩
    -- the slot
    have hof := ofH_lt k
    have hacc4 : accP S N w4 = (3, ((atP S k p : Nat) : Int), 0, (n : Int) + 1) := by
      unfold accP slotP slotH
      rw [if_neg (by rw [hw4.pc]; decide), if_neg (by rw [hw4.pc]; decide), if_neg (by rw [hw4.pc]; decide), if_neg (by rw [hw4.pc]; decide), if_neg (by rw [hw4.pc]; decide), if_neg (by rw [hw4.pc]; decide), if_pos hw4.pc, hw4.kd, hw4.r4, hw4.r5, if_neg (by omega)]
      unfold atP
      rw [Int.natCast_emod, Int.natCast_add]
    have hlw := wrK_len (m.set (S + 4 * N) (((c : Int) + 1) * 1048576 + topF r)) (S + 4 * n) k 4
    rw [List.length_set] at hlw
    have hz4 : (wrK (m.set (S + 4 * N) (((c : Int) + 1) * 1048576 + topF r)) (S + 4 * n) k 4).getD (atP S k p) 0 = 0 := by
      rw [wrK_get (by rw [List.length_set]; omega) 4 (Nat.le_refl _), if_neg (by omega), getD_set8, if_neg (by omega)]
      exact hz
    have hdo4 := doA_swapAt (m := wrK (m.set (S + 4 * N) (((c : Int) + 1) * 1048576 + topF r)) (S + 4 * n) k 4) (a := ((atP S k p : Nat) : Int)) (old := 0) (new := (n : Int) + 1) (by omega) (by omega) (by omega) (by unfold WdI; omega)
    rw [Int.toNat_natCast, if_neg (by rw [hz4]; simp)] at hdo4
    have hst4 : stepP S N (wrK (m.set (S + 4 * N) (((c : Int) + 1) * 1048576 + topF r)) (S + 4 * n) k 4) w4 = (tookP S N c m k n r (atP S k p), { w4 with done := true, out := w4.r5 - 1 }, 0) := by
      unfold stepP
      rw [hacc4, hdo4]
      simp only
      have hb4 : ∀ x, behP S w4 x true = { w4 with done := true, out := w4.r5 - 1 } := fun x => by
        unfold behP
        rw [if_neg (by rw [hw4.pc]; decide), if_neg (by rw [hw4.pc]; decide), if_neg (by rw [hw4.pc]; decide), if_neg (by rw [hw4.pc]; decide), if_neg (by rw [hw4.pc]; decide), if_neg (by rw [hw4.pc]; decide), if_pos hw4.pc, if_pos rfl]
      rw [hb4]
      rfl
    refine .inr ⟨n, r, rfl, _, .step hw.done hst (.step d1 hst1 (.step d2 hst2 (hrun.trans (.step hw4.done hst4 (.nil _ _))))), rfl, ?_⟩
    show w4.r5 - 1 = (n : Int)
    rw [hw4.r5]
    omega
end Go.Proofs.Ytocepdhjkhhpfaa
namespace Go.Proofs.Ytocepdhjkhhpfaa
set_option maxRecDepth 100000
set_option linter.unusedVariables false
set_option linter.unusedSimpArgs false

theorem internW_look (k : Kd) : LookW k 0 (internW k) := ⟨rfl, rfl, rfl, rfl, rfl⟩
/-- every slot is on a path -/
theorem atP_onto {S : Nat} (hs : 1 ≤ S) (k : Kd) {s : Nat} (h : s < S) : ∃ i, i < S ∧ atP S k i = s := by
  have hm : ofH k % S < S := Nat.mod_lt _ (by omega)
  have hd := Nat.div_add_mod (ofH k) S
  by_cases hle : ofH k % S ≤ s
  · refine ⟨s - ofH k % S, by omega, ?_⟩
    unfold atP
    rw [show ofH k + (s - ofH k % S) = S * (ofH k / S) + s by omega, Nat.mul_add_mod, Nat.mod_eq_of_lt h]
  · refine ⟨s + S - ofH k % S, by omega, ?_⟩
    unfold atP
    rw [show ofH k + (s + S - ofH k % S) = S * (ofH k / S) + (s + S) by omega, Nat.mul_add_mod, Nat.add_mod_right, Nat.mod_eq_of_lt h]
theorem countP_one {P Q : Nat → Bool} {a : Nat} (hp : P a = false) (hq : Q a = true) (he : ∀ i, i ≠ a → Q i = P i) : ∀ S, (List.range S).countP Q = (List.range S).countP P + if a < S then 1 else 0 := by
  intro S
  induction S with
  | zero => simp
  | succ S ih =>
    rw [List.range_succ, List.countP_append, List.countP_append, ih, List.countP_singleton, List.countP_singleton]
    by_cases h : S = a
    · subst h
      rw [hp, hq, if_neg (Nat.lt_irrefl _), if_pos (Nat.lt_succ_self _)]
      simp
    · rw [he S h]
      by_cases hl : a < S
      · rw [if_pos hl, if_pos (show a < S + 1 by omega)]; omega
      · rw [if_neg hl, if_neg (show ¬ a < S + 1 by omega)]; omega
theorem countP_lt_one {P : Nat → Bool} {a S : Nat} (ha : a < S) (hp : P a = false) : (List.range S).countP P < S := by
  have h := countP_one (P := P) (Q := fun i => if i = a then true else P i) (a := a) hp (by simp) (fun i hi => by simp [hi]) S
  have h2 := List.countP_le_length (p := fun i => if i = a then true else P i) (l := List.range S)
  rw [List.length_range] at h2
  rw [if_pos ha] at h
  omega
def occP (m : List Int) (i : Nat) : Bool := decide (0 < m.getD i 0)
/-- a table, with what was put into it, and what is free -/
structure ProbeI (S N c : Nat) (m : List Int) (L : List (Kd × Nat)) (F : List Nat) : Prop where
  tab : TabL S N m
  free : FreeP S N c m F
  perm : (F ++ L.map Prod.snd).Perm (List.range N)
  kids : ∀ x ∈ L, kdAt S m x.2 = x.1
  place : ∀ x ∈ L, ∃ p, p < S ∧ m.getD (atP S x.1 p) 0 = (x.2 : Int) + 1 ∧ ∀ i, i < p → OtherP S m x.1 i
  occ : ∀ i, i < S → 0 < m.getD i 0 → ∃ x ∈ L, m.getD i 0 = (x.2 : Int) + 1
  cnt : (List.range S).countP (occP m) = L.length
theorem ProbeI.len {S N c : Nat} {m : List Int} {L : List (Kd × Nat)} {F : List Nat} (h : ProbeI S N c m L F) : F.length + L.length = N := by
  have := h.perm.length_eq
  rw [List.length_append, List.length_map, List.length_range] at this
  exact this
/-- what was put is not free -/
theorem ProbeI.sep {S N c : Nat} {m : List Int} {L : List (Kd × Nat)} {n : Nat} {r : List Nat} (h : ProbeI S N c m L (n :: r)) : ∀ x ∈ L, x.2 ≠ n := by
  intro x hx e
  have hn := h.perm.nodup_iff.2 List.nodup_range
  rw [List.cons_append, List.nodup_cons] at hn
  exact hn.1 (List.mem_append.2 (.inr (List.mem_map.2 ⟨x, hx, e⟩)))
/-- one of them, by its kids -/
theorem ProbeI.found {S N c : Nat} {m : List Int} {L : List (Kd × Nat)} {F : List Nat} (h : ProbeI S N c m L F) {x : Kd × Nat} (hx : x ∈ L) {i : Nat} (hlo : ∀ i', i' < i → OtherP S m x.1 i') (hp : 0 < m.getD (atP S x.1 i) 0) (hk : kdAt S m (m.getD (atP S x.1 i) 0 - 1).toNat = x.1) : m.getD (atP S x.1 i) 0 = (x.2 : Int) + 1 := by
  obtain ⟨p, h1, h2, h3⟩ := h.place x hx
  rcases Nat.lt_trichotomy i p with hl | hl | hl
  · exact absurd hk (h3 i hl).2
  · rw [hl]; exact h2
  · have := (hlo p hl).2
    rw [h2, show ((x.2 : Int) + 1 - 1).toNat = x.2 by omega] at this
    exact absurd (h.kids x hx) this
/-- none of them has kids, whose path ends free, or does not end -/
theorem ProbeI.none {S N c : Nat} {m : List Int} {L : List (Kd × Nat)} {F : List Nat} (h : ProbeI S N c m L F) {k : Kd} {i : Nat} (hlo : ∀ i', i' < i → OtherP S m k i') (hz : i = S ∨ m.getD (atP S k i) 0 = 0) : ∀ x ∈ L, x.1 ≠ k := by
  intro x hx e
  obtain ⟨p, h1, h2, h3⟩ := h.place x hx
  rw [e] at h2 h3
  have hk := h.kids x hx
  rw [e] at hk
  rcases Nat.lt_trichotomy i p with hl | hl | hl
  · have := (h3 i hl).1
    rcases hz with hz | hz <;> omega
  · rw [hl] at hz
    rcases hz with hz | hz <;> omega
  · have := (hlo p hl).2
    rw [h2, show ((x.2 : Int) + 1 - 1).toNat = x.2 by omega] at this
    exact absurd hk this
/-! ### the words behind a put -/
section
variable {S N c : Nat} {m : List Int} {k : Kd} {n : Nat} {r : List Nat} {a : Nat}
theorem tookP_len : (tookP S N c m k n r a).length = m.length := by
  unfold tookP
  rw [List.length_set, wrK_len, List.length_set]
theorem tookP_get (h : TabL S N m) (hn : n < N) (ha : a < S) (i : Nat) : (tookP S N c m k n r a).getD i 0 = if i = a then (n : Int) + 1 else if S + 4 * n ≤ i ∧ i < S + 4 * n + 4 then kdH k (i - (S + 4 * n)) else if i = S + 4 * N then ((c : Int) + 1) * 1048576 + topF r else m.getD i 0 := by
  have hl := h.len
  unfold tookP
  rw [getD_set8, wrK_len, List.length_set, wrK_get (by rw [List.length_set]; omega) 4 (Nat.le_refl _), getD_set8]
  by_cases h1 : i = a
  · rw [if_pos h1, if_pos ⟨h1.symm, by omega⟩]
  · rw [if_neg h1, if_neg (fun c => h1 c.1.symm)]
    by_cases h2 : S + 4 * n ≤ i ∧ i < S + 4 * n + 4
    · rw [if_pos h2, if_pos h2]
    · rw [if_neg h2, if_neg h2]
      by_cases h3 : i = S + 4 * N
      · rw [if_pos h3, if_pos ⟨h3.symm, by omega⟩]
      · rw [if_neg h3, if_neg (fun c => h3 c.1.symm)]
theorem tookP_slot (h : TabL S N m) (hn : n < N) (ha : a < S) {i : Nat} (hi : i < S) : (tookP S N c m k n r a).getD i 0 = if i = a then (n : Int) + 1 else m.getD i 0 := by
  rw [tookP_get h hn ha, if_neg (show ¬(S + 4 * n ≤ i ∧ i < S + 4 * n + 4) by omega), if_neg (show ¬ i = S + 4 * N by omega)]
theorem tookP_kd (h : TabL S N m) (hn : n < N) (ha : a < S) {x : Nat} (hx : x < N) : kdAt S (tookP S N c m k n r a) x = if x = n then k else kdAt S m x := by
  refine kd_ext8 fun i hi => ?_
  rw [← kdAt_get S _ x hi, tookP_get h hn ha, if_neg (by omega)]
  by_cases hxn : x = n
  · rw [if_pos hxn, if_pos (by omega), hxn, Nat.add_sub_cancel_left]
  · rw [if_neg hxn, if_neg (by omega), if_neg (by omega), kdAt_get S m x hi]
end
theorem ProbeI.put {S N c : Nat} {m : List Int} {L : List (Kd × Nat)} {n : Nat} {r : List Nat} (h : ProbeI S N c m L (n :: r)) {k : Kd} {i : Nat} (hi : i < S) (hlo : ∀ i', i' < i → OtherP S m k i') (hz : m.getD (atP S k i) 0 = 0) :
    ProbeI S N (c + 1) (tookP S N c m k n r (atP S k i)) (L ++ [(k, n)]) r := by
  have hT := h.tab
  have hn : n < N := h.free.lt n (by simp)
  have hat : atP S k i < S := Nat.mod_lt _ (by omega)
  have hlt : ∀ x ∈ L, x.2 < N := fun x hx => List.mem_range.1 (h.perm.mem_iff.1 (List.mem_append.2 (.inr (List.mem_map.2 ⟨x, hx, rfl⟩))))
  have hsep := h.sep
  have hoth : ∀ k' j, OtherP S m k' j → OtherP S (tookP S N c m k n r (atP S k i)) k' j := by
    intro k' j ⟨h1, h2⟩
    have hj : atP S k' j < S := Nat.mod_lt _ (by omega)
    obtain ⟨y, hy, hye⟩ := h.occ _ hj h1
    have hne : ¬ atP S k' j = atP S k i := fun e => by rw [e, hz] at h1; omega
    have es : (tookP S N c m k n r (atP S k i)).getD (atP S k' j) 0 = m.getD (atP S k' j) 0 := by rw [tookP_slot hT hn hat hj, if_neg hne]
    refine ⟨by rw [es]; exact h1, ?_⟩
    rw [es, hye, show ((y.2 : Int) + 1 - 1).toNat = y.2 by omega, tookP_kd hT hn hat (hlt y hy), if_neg (hsep y hy)]
    rw [hye, show ((y.2 : Int) + 1 - 1).toNat = y.2 by omega] at h2
    exact h2
  refine ⟨⟨hT.s1, hT.s2, hT.n2, tookP_len.trans hT.len, fun j hj => ?_⟩, ⟨?_, ?_, fun x hx => h.free.lt x (by simp [hx])⟩, ?_, ?_, ?_, ?_, ?_⟩
  · rw [tookP_slot hT hn hat hj]
    split
    · omega
    · exact hT.slots j hj
  · rw [tookP_get hT hn hat, if_neg (by omega), if_neg (by omega), if_pos rfl]
    push_cast
    rfl
  · refine ChainO.congr (m := m) (fun j hj => ?_) h.free.chain.2
    rw [tookP_get hT hn hat, if_neg (by omega), if_neg (by omega), if_neg (by omega)]
  · refine List.Perm.trans ?_ h.perm
    rw [List.map_append, ← List.append_assoc]
    exact List.perm_append_comm
  · intro x hx
    rcases List.mem_append.1 hx with hx | hx
    · rw [tookP_kd hT hn hat (hlt x hx), if_neg (hsep x hx)]
      exact h.kids x hx
    · rw [List.mem_singleton.1 hx, tookP_kd hT hn hat hn, if_pos rfl]
  · intro x hx
    rcases List.mem_append.1 hx with hx | hx
    · obtain ⟨p, h1, h2, h3⟩ := h.place x hx
      refine ⟨p, h1, ?_, fun j hj => hoth _ _ (h3 j hj)⟩
      have hap : atP S x.1 p < S := Nat.mod_lt _ (by omega)
      rw [tookP_slot hT hn hat hap, if_neg (fun e => by rw [e, hz] at h2; omega)]
      exact h2
    · rw [List.mem_singleton.1 hx]
      refine ⟨i, hi, ?_, fun j hj => hoth _ _ (hlo j hj)⟩
      rw [tookP_slot hT hn hat hat, if_pos rfl]
  · intro j hj h0
    rw [tookP_slot hT hn hat hj] at h0 ⊢
    by_cases e : j = atP S k i
    · rw [if_pos e]
      exact ⟨(k, n), by simp, rfl⟩
    · rw [if_neg e] at h0 ⊢
      obtain ⟨x, hx, hxe⟩ := h.occ j hj h0
      exact ⟨x, List.mem_append.2 (.inl hx), hxe⟩
  · rw [List.length_append, List.length_singleton, ← h.cnt]
    have hcong : (List.range S).countP (occP (tookP S N c m k n r (atP S k i))) = (List.range S).countP (fun j => if j = atP S k i then true else occP m j) := by
      refine List.countP_congr fun j hj => ?_
      have hjS := List.mem_range.1 hj
      unfold occP
      rw [tookP_slot hT hn hat hjS]
      by_cases e : j = atP S k i
      · rw [if_pos e, if_pos e]; simp
      · rw [if_neg e, if_neg e]
    rw [hcong, countP_one (P := occP m) (a := atP S k i) (by unfold occP; rw [hz]; rfl) (by simp) (fun j hj => by simp [hj]) S, if_pos hat]
/-- one alone: what it ends with, and what it leaves -/
theorem ProbeI.run {S N c : Nat} {m : List Int} {L : List (Kd × Nat)} {F : List Nat} (h : ProbeI S N c m L F) (hc : c ≤ 1000000) {k : Kd} (hk : ∀ i, i < 4 → WdI (kdH k i)) :
    (∃ x ∈ L, x.1 = k ∧ (∀ y ∈ L, y.1 = k → y.2 = x.2) ∧ ∃ q w', q ≤ 5 * S ∧ Alone8 S N m (internW k) q m w' ∧ w'.done = true ∧ w'.out = x.2) ∨
    ((∀ x ∈ L, x.1 ≠ k) ∧ (L.length = S ∨ L.length = N) ∧ ∃ q w', q ≤ 5 * S + 1 ∧ Alone8 S N m (internW k) q m w' ∧ w'.done = true ∧ w'.out = -1) ∨
    ((∀ x ∈ L, x.1 ≠ k) ∧ L.length < S ∧ L.length < N ∧ ∃ n r i q w', F = n :: r ∧ i < S ∧ (∀ i', i' < i → OtherP S m k i') ∧ m.getD (atP S k i) 0 = 0 ∧ q = costP S m k i + 9 ∧ Alone8 S N m (internW k) q (tookP S N c m k n r (atP S k i)) w' ∧ w'.done = true ∧ w'.out = n ∧ ProbeI S N (c + 1) (tookP S N c m k n r (atP S k i)) (L ++ [(k, n)]) r) := by
  have hT := h.tab
  have hs1 := hT.s1
  have hle := h.len
  rcases look_run hT S 0 (internW k) (Nat.zero_add S) (by omega) (internW_look k) (fun i hi => absurd hi (Nat.not_lt_zero i)) with ⟨i, q, w', g1, g2, g3, g4, g5, g6, g7⟩ | ⟨i, q, w', g0, g1, g2, g3, g5, g6, g7⟩ | ⟨g1, q, w', g5, g6, g7⟩
  · have hap : atP S k i < S := Nat.mod_lt _ (by omega)
    obtain ⟨x, hx, hxe⟩ := h.occ _ hap g3
    have hxk : x.1 = k := by
      rw [hxe, show ((x.2 : Int) + 1 - 1).toNat = x.2 by omega] at g4
      rw [← h.kids x hx, g4]
    refine .inl ⟨x, hx, hxk, fun y hy hyk => ?_, q, w', ?_, g6, g7.done, by rw [g7.out, hxe]; omega⟩
    · have := h.found hy (i := i) (by rw [hyk]; exact g2) (by rw [hyk]; exact g3) (by rw [hyk]; exact g4)
      rw [hyk, hxe] at this
      omega
    · have := costP_le S m k (i + 1)
      have h0 : costP S m k 0 = 0 := rfl
      omega
  · have hno := h.none g2 (.inr g3)
    have h0 : costP S m k 0 = 0 := rfl
    have hcl := costP_le S m k i
    rcases take_run hT h.free hc hk g1 g7 g3 with ⟨hF, w2, r1, r2⟩ | ⟨n, r, hF, w2, r1, r2, r3⟩
    · refine .inr (.inl ⟨hno, .inr ?_, q + 1, w2, by omega, g6.trans r1, r2.done, r2.out⟩)
      rw [hF] at hle
      simpa using hle
    · subst hF
      have hlS : L.length < S := by
        rw [← h.cnt]
        exact countP_lt_one (a := atP S k i) (Nat.mod_lt _ (by omega)) (by unfold occP; rw [g3]; rfl)
      rw [List.length_cons] at hle
      exact .inr (.inr ⟨hno, hlS, by omega, n, r, i, q + 8, w2, rfl, g1, g2, g3, by omega, g6.trans r1, r2, r3, h.put g1 g2 g3⟩)
  · have hno := h.none g1 (.inl rfl)
    have h0 : costP S m k 0 = 0 := rfl
    have hcl := costP_le S m k S
    refine .inr (.inl ⟨hno, .inl ?_, q, w', by omega, g6, g7.done, g7.out⟩)
    rw [← h.cnt]
    have : (List.range S).countP (occP m) = (List.range S).length := by
      rw [List.countP_eq_length]
      intro s hs
      obtain ⟨i, hi, hie⟩ := atP_onto hs1 k (List.mem_range.1 hs)
      have := (g1 i hi).1
      rw [hie] at this
      unfold occP
      simpa using this
    rw [this, List.length_range]
end Go.Proofs.Ytocepdhjkhhpfaa
namespace Go.Proofs.Ytocepdhjkhhpfaa
set_option maxRecDepth 100000
set_option linter.unusedVariables false
set_option linter.unusedSimpArgs false

/-! ### the first words -/
def newT (S N : Nat) : List Int := List.replicate (S + 4 * N) 0 ++ makeL N
theorem newT_len (S N : Nat) : (newT S N).length = S + 5 * N + 1 := by
  unfold newT
  rw [List.length_append, List.length_replicate, makeL_len]
  omega
theorem newT_low (S N : Nat) {i : Nat} (h : i < S + 4 * N) : (newT S N).getD i 0 = 0 := by
  unfold newT
  rw [List.getD_eq_getElem?_getD, List.getElem?_append_left (by rw [List.length_replicate]; exact h), List.getElem?_replicate, if_pos h]
  rfl
theorem newT_high (S N i : Nat) : (newT S N).getD (S + 4 * N + i) 0 = (makeL N).getD i 0 := by
  unfold newT
  rw [List.getD_eq_getElem?_getD, List.getElem?_append_right (by rw [List.length_replicate]; omega), List.length_replicate, Nat.add_sub_cancel_left, ← List.getD_eq_getElem?_getD]
theorem newT_chain (S N : Nat) : ∀ F : List Nat, ChainF (makeL N) F → ChainO (S + 4 * N) (newT S N) F
  | [], _ => trivial
  | x :: r, h => ⟨by rw [Nat.add_assoc (S + 4 * N) x 1, newT_high]; exact h.1, newT_chain S N r h.2⟩
theorem probe_new {S N : Nat} (h1 : 1 ≤ S) (h2 : S ≤ 4000) (hn : N ≤ 1000) : ProbeI S N 0 (newT S N) [] (List.range N) := by
  have hs := stk_new N
  refine ⟨⟨h1, h2, hn, newT_len S N, fun i hi => ?_⟩, ⟨?_, newT_chain S N _ hs.chain, hs.lt⟩, ?_, ?_, ?_, ?_, ?_⟩
  · rw [newT_low S N (by omega)]; omega
  · rw [show S + 4 * N = S + 4 * N + 0 from rfl, newT_high]; exact hs.head
  · simp
  · intro x hx; simp at hx
  · intro x hx; simp at hx
  · intro i hi h0; rw [newT_low S N (by omega)] at h0; omega
  · rw [List.length_nil, List.countP_eq_zero]
    intro i hi
    unfold occP
    rw [newT_low S N (by have := List.mem_range.1 hi; omega)]
    decide
/-! ### what is free -/
theorem ChainO.walk {o n : Nat} {m : List Int} (hlen : m.length = o + n + 1) : ∀ (F : List Nat), ChainO o m F → (∀ x ∈ F, x < n) → ChainF (m.drop o) F
  | [], _, _ => trivial
  | x :: r, h, hlt => ⟨by
      rw [List.getD_eq_getElem?_getD, List.getElem?_drop, ← Nat.add_assoc, ← List.getD_eq_getElem?_getD]
      exact h.1, ChainO.walk hlen r h.2 (fun y hy => hlt y (by simp [hy]))⟩
/-! ### a second time -/
theorem ProbeI.same {S N c : Nat} {m : List Int} {L : List (Kd × Nat)} {n : Nat} {r : List Nat} (h : ProbeI S N c m L (n :: r)) {k : Kd} {a : Nat} (ha : a < S) (hz : m.getD a 0 = 0) {j : Nat} (hj : j < S) (h0 : 0 < m.getD j 0) :
    (tookP S N c m k n r a).getD j 0 = m.getD j 0 ∧ kdAt S (tookP S N c m k n r a) (m.getD j 0 - 1).toNat = kdAt S m (m.getD j 0 - 1).toNat := by
  have hT := h.tab
  have hn : n < N := h.free.lt n (by simp)
  obtain ⟨y, hy, hye⟩ := h.occ _ hj h0
  have hlt : y.2 < N := List.mem_range.1 (h.perm.mem_iff.1 (List.mem_append.2 (.inr (List.mem_map.2 ⟨y, hy, rfl⟩))))
  refine ⟨by rw [tookP_slot hT hn ha hj, if_neg (fun e => by rw [e, hz] at h0; omega)], ?_⟩
  rw [hye, show ((y.2 : Int) + 1 - 1).toNat = y.2 by omega, tookP_kd hT hn ha hlt, if_neg (h.sep y hy)]
theorem found_at {S N : Nat} {m : List Int} (h : TabL S N m) {k : Kd} {i : Nat} (hi : i < S) (hlo : ∀ i', i' < i → OtherP S m k i') (hp : 0 < m.getD (atP S k i) 0) (hk : kdAt S m (m.getD (atP S k i) 0 - 1).toNat = k) :
    ∃ w', Alone8 S N m (internW k) (costP S m k (i + 1)) m w' ∧ w'.done = true ∧ w'.out = m.getD (atP S k i) 0 - 1 := by
  have hs1 := h.s1
  have hself : ∀ i', OtherP S m k i' → i' ≠ i := fun i' ho e => by
    rw [e] at ho
    exact ho.2 hk
  rcases look_run h S 0 (internW k) (Nat.zero_add S) (by omega) (internW_look k) (fun i hi => absurd hi (Nat.not_lt_zero i)) with ⟨i', q, w', g1, g2, g3, g4, g5, g6, g7⟩ | ⟨i', q, w', g0, g1, g2, g3, g5, g6, g7⟩ | ⟨g1, q, w', g5, g6, g7⟩
  · have hii : i' = i := by
      rcases Nat.lt_trichotomy i' i with hl | hl | hl
      · exact absurd g4 (hlo i' hl).2
      · exact hl
      · exact absurd rfl (hself i (g2 i hl))
    subst hii
    have g5' : q = costP S m k (i' + 1) := g5
    rw [g5'] at g6
    exact ⟨w', g6, g7.done, g7.out⟩
  · rcases Nat.lt_trichotomy i' i with hl | hl | hl
    · have := (hlo i' hl).1
      rw [g3] at this
      exact absurd this (by decide)
    · rw [hl] at g3
      rw [g3] at hp
      exact absurd hp (by decide)
    · exact absurd rfl (hself i (g2 i hl))
  · exact absurd rfl (hself i (g1 i hi))
theorem ProbeI.twice {S N c : Nat} {m : List Int} {L : List (Kd × Nat)} {n : Nat} {r : List Nat} (h : ProbeI S N c m L (n :: r)) {k : Kd} {i : Nat} (hi : i < S) (hlo : ∀ i', i' < i → OtherP S m k i') (hz : m.getD (atP S k i) 0 = 0) :
    ∃ w', Alone8 S N (tookP S N c m k n r (atP S k i)) (internW k) (costP S m k i + 5) (tookP S N c m k n r (atP S k i)) w' ∧ w'.done = true ∧ w'.out = n := by
  have hI := h.put hi hlo hz
  have hT := h.tab
  have hs1 := hT.s1
  have hn : n < N := h.free.lt n (by simp)
  have hat : atP S k i < S := Nat.mod_lt _ (by omega)
  have hsame := fun {j : Nat} (hj : j < S) (h0 : 0 < m.getD j 0) => h.same (k := k) hat hz hj h0
  have hsl : (tookP S N c m k n r (atP S k i)).getD (atP S k i) 0 = (n : Int) + 1 := by rw [tookP_slot hT hn hat hat, if_pos rfl]
  have hkd : kdAt S (tookP S N c m k n r (atP S k i)) n = k := by rw [tookP_kd hT hn hat hn, if_pos rfl]
  generalize tookP S N c m k n r (atP S k i) = m' at *
  have hlo2 : ∀ i', i' < i → OtherP S m' k i' := fun j hj => by
    have hap : atP S k j < S := Nat.mod_lt _ (by omega)
    obtain ⟨g1, g2⟩ := hlo j hj
    obtain ⟨e1, e2⟩ := hsame hap g1
    exact ⟨by rw [e1]; exact g1, by rw [e1, e2]; exact g2⟩
  have hcost : costP S m' k i = costP S m k i := costP_congr fun j hj => by
    have hap : atP S k j < S := Nat.mod_lt _ (by omega)
    exact hsame hap (hlo j hj).1
  have ht : ((n : Int) + 1 - 1).toNat = n := by omega
  obtain ⟨w', h1, h2, h3⟩ := found_at hI.tab (k := k) hi hlo2 (by rw [hsl]; omega) (by rw [hsl, ht]; exact hkd)
  have hc1 : costP S m' k (i + 1) = costP S m k i + 5 := by
    have e : costP S m' k (i + 1) = costP S m' k i + 1 + cmpN (kdAt S m' (m'.getD (atP S k i) 0 - 1).toNat) k := rfl
    rw [e, hcost, hsl, ht, hkd, cmpN_self]
  rw [hc1] at h1
  exact ⟨w', h1, h2, by rw [h3, hsl]; omega⟩
/-- one that is there is found again -/
theorem ProbeI.again {S N c : Nat} {m : List Int} {L : List (Kd × Nat)} {F : List Nat} (h : ProbeI S N c m L F) {x : Kd × Nat} (hx : x ∈ L) :
    ∃ q w', q ≤ 5 * S ∧ Alone8 S N m (internW x.1) q m w' ∧ w'.done = true ∧ w'.out = x.2 := by
  obtain ⟨p, h1, h2, h3⟩ := h.place x hx
  have ht : ((x.2 : Int) + 1 - 1).toNat = x.2 := by omega
  obtain ⟨w', g1, g2, g3⟩ := found_at h.tab (k := x.1) h1 h3 (by rw [h2]; omega) (by rw [h2, ht]; exact h.kids x hx)
  have hc := costP_le S m x.1 (p + 1)
  exact ⟨_, w', Nat.le_trans hc (Nat.mul_le_mul_left 5 h1), g1, g2, by rw [g3, h2]; omega⟩
end Go.Proofs.Ytocepdhjkhhpfaa
namespace Go.Proofs.Ytocepdhjkhhpfaa
set_option maxRecDepth 100000
set_option linter.unusedVariables false
set_option linter.unusedSimpArgs false

/-- the node that a worker has taken, and has not put, or given back -/
def ownW (w : W8) : List Nat := if w.done = true ∨ w.r5 = 0 then [] else [(w.r5 - 1).toNat]
/-- a table, what was put into it, what is free, what workers hold -/
structure TabI (S N c : Nat) (m : List Int) (L : List (Kd × Nat)) (F H : List Nat) : Prop where
  tab : TabL S N m
  free : FreeP S N c m F
  links : ∀ x, x < N → 0 ≤ m.getD (S + 4 * N + x + 1) 0 ∧ m.getD (S + 4 * N + x + 1) 0 ≤ N
  perm : (F ++ (L.map Prod.snd ++ H)).Perm (List.range N)
  kids : ∀ x ∈ L, kdAt S m x.2 = x.1
  place : ∀ x ∈ L, ∃ p, p < S ∧ m.getD (atP S x.1 p) 0 = (x.2 : Int) + 1 ∧ ∀ i, i < p → OtherP S m x.1 i
  occ : ∀ i, i < S → 0 < m.getD i 0 → ∃ x ∈ L, m.getD i 0 = (x.2 : Int) + 1
  cnt : (List.range S).countP (occP m) = L.length
theorem TabI.len {S N c : Nat} {m : List Int} {L : List (Kd × Nat)} {F H : List Nat} (h : TabI S N c m L F H) : F.length + (L.length + H.length) = N := by
  have := h.perm.length_eq
  rw [List.length_append, List.length_append, List.length_map, List.length_range] at this
  exact this
theorem TabI.nodup {S N c : Nat} {m : List Int} {L : List (Kd × Nat)} {F H : List Nat} (h : TabI S N c m L F H) : (F ++ (L.map Prod.snd ++ H)).Nodup := h.perm.nodup_iff.2 List.nodup_range
theorem TabI.putLt {S N c : Nat} {m : List Int} {L : List (Kd × Nat)} {F H : List Nat} (h : TabI S N c m L F H) {x : Kd × Nat} (hx : x ∈ L) : x.2 < N :=
  List.mem_range.1 (h.perm.mem_iff.1 (List.mem_append.2 (.inr (List.mem_append.2 (.inl (List.mem_map.2 ⟨x, hx, rfl⟩))))))
theorem TabI.heldLt {S N c : Nat} {m : List Int} {L : List (Kd × Nat)} {F H : List Nat} (h : TabI S N c m L F H) {x : Nat} (hx : x ∈ H) : x < N :=
  List.mem_range.1 (h.perm.mem_iff.1 (List.mem_append.2 (.inr (List.mem_append.2 (.inr hx)))))
/-- what is held was not put -/
theorem TabI.heldPut {S N c : Nat} {m : List Int} {L : List (Kd × Nat)} {F H : List Nat} (h : TabI S N c m L F H) {n : Nat} (hn : n ∈ H) : ∀ x ∈ L, x.2 ≠ n := by
  intro x hx e
  have hd := (List.nodup_append.1 h.nodup).2.1
  exact (List.nodup_append.1 hd).2.2 x.2 (List.mem_map.2 ⟨x, hx, rfl⟩) n hn e
/-- .. nor is it free -/
theorem TabI.heldFree {S N c : Nat} {m : List Int} {L : List (Kd × Nat)} {F H : List Nat} (h : TabI S N c m L F H) {n : Nat} (hn : n ∈ H) : n ∉ F := by
  intro hf
  exact (List.nodup_append.1 h.nodup).2.2 n hf n (List.mem_append.2 (.inr hn)) rfl
theorem TabI.other {S N c : Nat} {m m' : List Int} {L : List (Kd × Nat)} {F H : List Nat} (h : TabI S N c m L F H) (hs : ∀ i, i < S → 0 < m.getD i 0 → m'.getD i 0 = m.getD i 0) (hk : ∀ x ∈ L, kdAt S m' x.2 = kdAt S m x.2) {k : Kd} {j : Nat} (ho : OtherP S m k j) : OtherP S m' k j := by
  have hs1 := h.tab.s1
  have hap : atP S k j < S := Nat.mod_lt _ (by omega)
  obtain ⟨h1, h2⟩ := ho
  obtain ⟨y, hy, hye⟩ := h.occ _ hap h1
  have es := hs _ hap h1
  have ht : ((y.2 : Int) + 1 - 1).toNat = y.2 := by omega
  refine ⟨by rw [es]; exact h1, ?_⟩
  rw [hye, ht] at h2
  rw [es, hye, ht, hk y hy]
  exact h2
/-- words whose slots are the same, and what was put -/
theorem TabI.next {S N c c' : Nat} {m m' : List Int} {L : List (Kd × Nat)} {F H F' H' : List Nat} (h : TabI S N c m L F H) (hl : m'.length = m.length) (hs : ∀ i, i < S → m'.getD i 0 = m.getD i 0) (hk : ∀ x ∈ L, kdAt S m' x.2 = kdAt S m x.2)
    (hf : FreeP S N c' m' F') (hln : ∀ x, x < N → 0 ≤ m'.getD (S + 4 * N + x + 1) 0 ∧ m'.getD (S + 4 * N + x + 1) 0 ≤ N) (hp : (F' ++ (L.map Prod.snd ++ H')).Perm (List.range N)) : TabI S N c' m' L F' H' := by
  have hs1 := h.tab.s1
  refine ⟨⟨h.tab.s1, h.tab.s2, h.tab.n2, hl.trans h.tab.len, fun i hi => by rw [hs i hi]; exact h.tab.slots i hi⟩, hf, hln, hp, fun x hx => by rw [hk x hx]; exact h.kids x hx, fun x hx => ?_, fun i hi h0 => ?_, ?_⟩
  · obtain ⟨p, h1, h2, h3⟩ := h.place x hx
    have hap : atP S x.1 p < S := Nat.mod_lt _ (by omega)
    exact ⟨p, h1, by rw [hs _ hap]; exact h2, fun i hi => h.other (fun i hi _ => hs i hi) hk (h3 i hi)⟩
  · rw [hs i hi] at h0 ⊢
    exact h.occ i hi h0
  · rw [← h.cnt]
    refine List.countP_congr fun j hj => ?_
    unfold occP
    rw [hs j (List.mem_range.1 hj)]
/-- a held node is put into a free slot -/
theorem TabI.put {S N c : Nat} {m : List Int} {L : List (Kd × Nat)} {F H H' : List Nat} (h : TabI S N c m L F H) {k : Kd} {i n : Nat} (hi : i < S) (hlo : ∀ i', i' < i → OtherP S m k i') (hz : m.getD (atP S k i) 0 = 0) (hn : n ∈ H) (hH : (n :: H').Perm H) (hkd : kdAt S m n = k) :
    TabI S N c (m.set (atP S k i) ((n : Int) + 1)) (L ++ [(k, n)]) F H' := by
  have hT := h.tab
  have hs1 := hT.s1
  have hl := hT.len
  have hnN := h.heldLt hn
  have hat : atP S k i < S := Nat.mod_lt _ (by omega)
  have hsl : ∀ j, (m.set (atP S k i) ((n : Int) + 1)).getD j 0 = if j = atP S k i then (n : Int) + 1 else m.getD j 0 := fun j => by
    rw [getD_set8]
    by_cases e : j = atP S k i
    · rw [if_pos e, if_pos ⟨e.symm, by omega⟩]
    · rw [if_neg e, if_neg (fun hc => e hc.1.symm)]
  generalize ha : atP S k i = a at *
  have hle : (m.set a ((n : Int) + 1)).length = m.length := List.length_set
  generalize m.set a ((n : Int) + 1) = m' at *
  have hkk : ∀ x, kdAt S m' x = kdAt S m x := fun x => kd_ext8 fun j hj => by
    rw [← kdAt_get S m' x hj, ← kdAt_get S m x hj, hsl, if_neg (by omega)]
  have hss : ∀ j, j < S → 0 < m.getD j 0 → m'.getD j 0 = m.getD j 0 := fun j _ h0 => by rw [hsl, if_neg (fun e => by rw [e, hz] at h0; omega)]
  have hoth : ∀ {k' j}, OtherP S m k' j → OtherP S m' k' j := fun ho => h.other hss (fun x _ => hkk x.2) ho
  refine ⟨⟨hT.s1, hT.s2, hT.n2, hle.trans hl, fun j hj => ?_⟩, ⟨?_, ?_, h.free.lt⟩, ?_, ?_, ?_, ?_, ?_, ?_⟩
  · rw [hsl]
    split
    · omega
    · exact hT.slots j hj
  · rw [hsl, if_neg (by omega)]; exact h.free.head
  · exact ChainO.congr (m := m) (fun j hj => by rw [hsl, if_neg (by omega)]) h.free.chain
  · intro x hx
    rw [hsl, if_neg (by omega)]
    exact h.links x hx
  · refine List.Perm.trans ?_ h.perm
    refine List.Perm.append_left F ?_
    rw [List.map_append, List.append_assoc]
    exact List.Perm.append_left _ hH
  · intro x hx
    rw [hkk]
    rcases List.mem_append.1 hx with hx | hx
    · exact h.kids x hx
    · rw [List.mem_singleton.1 hx]; exact hkd
  · intro x hx
    rcases List.mem_append.1 hx with hx | hx
    · obtain ⟨p, h1, h2, h3⟩ := h.place x hx
      have hap : atP S x.1 p < S := Nat.mod_lt _ (by omega)
      have hpos : (0 : Int) < (x.2 : Int) + 1 := Int.lt_add_one_of_le (Int.natCast_nonneg _)
      rw [← h2] at hpos
      exact ⟨p, h1, (hss _ hap hpos).trans h2, fun j hj => hoth (h3 j hj)⟩
    · have hsa : m'.getD (atP S k i) 0 = (n : Int) + 1 := by rw [ha, hsl, if_pos rfl]
      rw [List.mem_singleton.1 hx]
      exact ⟨i, hi, hsa, fun j hj => hoth (hlo j hj)⟩
  · intro j hj h0
    rw [hsl] at h0 ⊢
    by_cases e : j = a
    · rw [if_pos e]
      exact ⟨(k, n), by simp, rfl⟩
    · rw [if_neg e] at h0 ⊢
      obtain ⟨x, hx, hxe⟩ := h.occ j hj h0
      exact ⟨x, List.mem_append.2 (.inl hx), hxe⟩
  · rw [List.length_append, List.length_singleton, ← h.cnt]
    have hcong : (List.range S).countP (occP m') = (List.range S).countP (fun j => if j = a then true else occP m j) := by
      refine List.countP_congr fun j hj => ?_
      unfold occP
      rw [hsl]
      by_cases e : j = a
      · rw [if_pos e, if_pos e]; simp
      · rw [if_neg e, if_neg e]
    rw [hcong, countP_one (P := occP m) (a := a) (by unfold occP; rw [hz]; rfl) (by simp) (fun j hj => by simp [hj]) S, if_pos hat]
/-! ### what a worker knows -/
def OutL (L : List (Kd × Nat)) (w : W8) : Prop := w.out = -1 ∨ ∃ n : Nat, w.out = n ∧ (kdW8 w, n) ∈ L
structure PathP (S : Nat) (m : List Int) (w : W8) (p : Nat) : Prop where
  r4 : w.r4 = p
  lt : p < S
  lo : ∀ i, i < p → OtherP S m (kdW8 w) i
def HasN (S : Nat) (m : List Int) (w : W8) : Prop := w.r5 = 0 ∨ ∃ n : Nat, w.r5 = (n : Int) + 1 ∧ kdAt S m n = kdW8 w
inductive WIn (S N c : Nat) (m : List Int) (L : List (Kd × Nat)) (F : List Nat) (w : W8) : Prop
  | ended (hd : w.done = true) (ho : OutL L w)
  | look (p : Nat) (hd : w.done = false) (hpc : w.pc = 0) (hp : PathP S m w p) (hn : HasN S m w)
  | comp (p x j : Nat) (hd : w.done = false) (hpc : w.pc = 1) (hp : PathP S m w p) (hn : HasN S m w) (h6 : w.r6 = x) (hx : m.getD (atP S (kdW8 w) p) 0 = (x : Int) + 1) (h7 : w.r7 = j) (hj : j < 4) (he : ∀ i, i < j → kdH (kdAt S m x) i = kdH (kdW8 w) i)
  | head (p : Nat) (hd : w.done = false) (hpc : w.pc = 10) (hp : PathP S m w p) (h5 : w.r5 = 0)
  | next (p k : Nat) (t : Int) (hd : w.done = false) (hpc : w.pc = 11) (hp : PathP S m w p) (h5 : w.r5 = 0) (hr : ReadH N c F w.r6 k t) (ht : 1 ≤ t)
  | pop (p k : Nat) (t : Int) (hd : w.done = false) (hpc : w.pc = 12) (hp : PathP S m w p) (h5 : w.r5 = 0) (hr : ReadH N c F w.r6 k t) (ht : 1 ≤ t) (h7 : 0 ≤ w.r7 ∧ w.r7 ≤ N) (hl : k = c → w.r7 = m.getD (S + 4 * N + t.toNat) 0)
  | kids (p n j : Nat) (hd : w.done = false) (hpc : w.pc = 13) (hp : PathP S m w p) (h5 : w.r5 = (n : Int) + 1) (h7 : w.r7 = j) (hj : j < 4) (he : ∀ i, i < j → kdH (kdAt S m n) i = kdH (kdW8 w) i)
  | fill (p n : Nat) (hd : w.done = false) (hpc : w.pc = 20) (hp : PathP S m w p) (h5 : w.r5 = (n : Int) + 1) (he : kdAt S m n = kdW8 w)
  | back (n : Nat) (hd : w.done = false) (hpc : w.pc = 30) (h5 : w.r5 = (n : Int) + 1) (ho : OutL L w)
  | tell (n k : Nat) (t : Int) (hd : w.done = false) (hpc : w.pc = 31) (h5 : w.r5 = (n : Int) + 1) (ho : OutL L w) (hr : ReadH N c F w.r6 k t)
  | push (n k : Nat) (t : Int) (hd : w.done = false) (hpc : w.pc = 32) (h5 : w.r5 = (n : Int) + 1) (ho : OutL L w) (hr : ReadH N c F w.r6 k t) (hl : m.getD (S + 4 * N + n + 1) 0 = t)
theorem ownW_some {w : W8} {n : Nat} (hd : w.done = false) (h5 : w.r5 = (n : Int) + 1) : ownW w = [n] := by
  unfold ownW
  rw [if_neg (by rw [hd, h5]; simp; omega), h5]
  congr 1
  omega
theorem ownW_none {w : W8} (h5 : w.r5 = 0) : ownW w = [] := by
  unfold ownW
  rw [if_pos (.inr h5)]
theorem ownW_done {w : W8} (hd : w.done = true) : ownW w = [] := by
  unfold ownW
  rw [if_pos (.inl hd)]
/-- what others see of a step -/
structure Onw (S N c : Nat) (m : List Int) (L : List (Kd × Nat)) (F : List Nat) (c' : Nat) (m' : List Int) (L' : List (Kd × Nat)) (F' : List Nat) (K : List Nat) : Prop where
  slot : ∀ i, i < S → 0 < m.getD i 0 → m'.getD i 0 = m.getD i 0
  put : ∀ x ∈ L, kdAt S m' x.2 = kdAt S m x.2
  kept : ∀ n ∈ K, kdAt S m' n = kdAt S m n ∧ m'.getD (S + 4 * N + n + 1) 0 = m.getD (S + 4 * N + n + 1) 0
  sub : ∀ x ∈ L, x ∈ L'
  cnt : c < c' ∨ (c' = c ∧ F' = F ∧ ∀ x ∈ F, m'.getD (S + 4 * N + x + 1) 0 = m.getD (S + 4 * N + x + 1) 0)
theorem ReadH.onw {n c c' : Nat} {F F' : List Nat} {r : Int} {k : Nat} {t : Int} (h : ReadH n c F r k t) (hc : c < c' ∨ (c' = c ∧ F' = F)) : ReadH n c' F' r k t := by
  obtain ⟨h1, h2, h3, h4, h5⟩ := h
  rcases hc with hc | ⟨rfl, rfl⟩
  · exact ⟨h1, by omega, h3, h4, fun e => by omega⟩
  · exact ⟨h1, h2, h3, h4, h5⟩
theorem WIn.onw {S N c c' : Nat} {m m' : List Int} {L L' : List (Kd × Nat)} {F F' H K : List Nat} {w : W8} (h : TabI S N c m L F H) (o : Onw S N c m L F c' m' L' F' K) (hw : WIn S N c m L F w) (hK : ∀ n ∈ ownW w, n ∈ K) : WIn S N c' m' L' F' w := by
  have hs1 := h.tab.s1
  have hpath : ∀ {p}, PathP S m w p → PathP S m' w p := fun ⟨a, b, d⟩ => ⟨a, b, fun i hi => h.other o.slot o.put (d i hi)⟩
  have hout : OutL L w → OutL L' w := fun ho => ho.imp id fun ⟨n, a, b⟩ => ⟨n, a, o.sub _ b⟩
  have hcc : c < c' ∨ (c' = c ∧ F' = F) := o.cnt.imp id fun ⟨a, b, _⟩ => ⟨a, b⟩
  have hhas : w.done = false → HasN S m w → HasN S m' w := fun hd hn => hn.imp id fun ⟨n, a, b⟩ => ⟨n, a, by rw [(o.kept n (hK n (by rw [ownW_some hd a]; simp))).1]; exact b⟩
  cases hw with
  | ended hd ho => exact .ended hd (hout ho)
  | look p hd hpc hp hn => exact .look p hd hpc (hpath hp) (hhas hd hn)
  | comp p x j hd hpc hp hn h6 hx h7 hj he =>
    have hap : atP S (kdW8 w) p < S := Nat.mod_lt _ (by omega)
    obtain ⟨y, hy, hye⟩ := h.occ _ hap (by omega)
    have hxy : x = y.2 := by omega
    exact .comp p x j hd hpc (hpath hp) (hhas hd hn) h6 (by rw [o.slot _ hap (by omega)]; exact hx) h7 hj (fun i hi => by rw [hxy, o.put y hy, ← hxy]; exact he i hi)
  | head p hd hpc hp h5 => exact .head p hd hpc (hpath hp) h5
  | next p k t hd hpc hp h5 hr ht => exact .next p k t hd hpc (hpath hp) h5 (hr.onw hcc) ht
  | pop p k t hd hpc hp h5 hr ht h7 hl =>
    refine .pop p k t hd hpc (hpath hp) h5 (hr.onw hcc) ht h7 fun hk => ?_
    rcases o.cnt with hc | ⟨e1, e2, e3⟩
    · have := hr.2.1; omega
    · rw [e1] at hk
      have ht2 := hr.2.2.2.2 hk
      have hlk := hl hk
      cases F with
      | nil => rw [ht2] at ht; exact absurd ht (by decide)
      | cons y r =>
        have hty : t.toNat = y + 1 := by
          have : t = (y : Int) + 1 := ht2
          omega
        have := e3 y (by simp)
        rw [hlk, hty, ← Nat.add_assoc, this]
  | kids p n j hd hpc hp h5 h7 hj he => exact .kids p n j hd hpc (hpath hp) h5 h7 hj (fun i hi => by rw [(o.kept n (hK n (by rw [ownW_some hd h5]; simp))).1]; exact he i hi)
  | fill p n hd hpc hp h5 he => exact .fill p n hd hpc (hpath hp) h5 (by rw [(o.kept n (hK n (by rw [ownW_some hd h5]; simp))).1]; exact he)
  | back n hd hpc h5 ho => exact .back n hd hpc h5 (hout ho)
  | tell n k t hd hpc h5 ho hr => exact .tell n k t hd hpc h5 (hout ho) (hr.onw hcc)
  | push n k t hd hpc h5 ho hr hl => exact .push n k t hd hpc h5 (hout ho) (hr.onw hcc) (by rw [(o.kept n (hK n (by rw [ownW_some hd h5]; simp))).2]; exact hl)
end Go.Proofs.Ytocepdhjkhhpfaa
namespace Go.Proofs.Ytocepdhjkhhpfaa
set_option maxRecDepth 100000
set_option linter.unusedVariables false
set_option linter.unusedSimpArgs false

theorem accP_0 {S N : Int} {w : W8} (h : w.pc = 0) : accP S N w = (1, slotP S w, 0, 0) := by unfold accP; rw [if_pos h]
theorem accP_1 {S N : Int} {w : W8} (h : w.pc = 1) : accP S N w = (1, kidP S N w.r6 w.r7, 0, 0) := by unfold accP; rw [if_neg (by rw [h]; decide), if_pos h]
theorem accP_10 {S N : Int} {w : W8} (h : w.pc = 10) : accP S N w = (1, S + 4 * N, 0, 0) := by unfold accP; rw [if_neg (by rw [h]; decide), if_neg (by rw [h]; decide), if_pos (.inl h)]
theorem accP_30 {S N : Int} {w : W8} (h : w.pc = 30) : accP S N w = (1, S + 4 * N, 0, 0) := by unfold accP; rw [if_neg (by rw [h]; decide), if_neg (by rw [h]; decide), if_pos (.inr h)]
theorem accP_11 {S N : Int} {w : W8} (h : w.pc = 11) : accP S N w = (1, S + 4 * N + hdH w.r6, 0, 0) := by unfold accP; rw [if_neg (by rw [h]; decide), if_neg (by rw [h]; decide), if_neg (by rw [h]; decide), if_pos h]
theorem accP_12 {S N : Int} {w : W8} (h : w.pc = 12) : accP S N w = (3, S + 4 * N, w.r6, (hdC w.r6 + 1) * 1048576 + w.r7) := by unfold accP; rw [if_neg (by rw [h]; decide), if_neg (by rw [h]; decide), if_neg (by rw [h]; decide), if_neg (by rw [h]; decide), if_pos h]
theorem accP_13 {S N : Int} {w : W8} (h : w.pc = 13) : accP S N w = (2, kidP S N (w.r5 - 1) w.r7, 0, kdH (kdW8 w) w.r7.toNat) := by unfold accP; rw [if_neg (by rw [h]; decide), if_neg (by rw [h]; decide), if_neg (by rw [h]; decide), if_neg (by rw [h]; decide), if_neg (by rw [h]; decide), if_pos h]
theorem accP_20 {S N : Int} {w : W8} (h : w.pc = 20) : accP S N w = (3, slotP S w, 0, w.r5) := by unfold accP; rw [if_neg (by rw [h]; decide), if_neg (by rw [h]; decide), if_neg (by rw [h]; decide), if_neg (by rw [h]; decide), if_neg (by rw [h]; decide), if_neg (by rw [h]; decide), if_pos h]
theorem accP_31 {S N : Int} {w : W8} (h : w.pc = 31) : accP S N w = (2, insP (S + 4 * N + w.r5) (S + 4 * N + 1) (S + 4 * N + N), 0, hdH w.r6) := by unfold accP; rw [if_neg (by rw [h]; decide), if_neg (by rw [h]; decide), if_neg (by rw [h]; decide), if_neg (by rw [h]; decide), if_neg (by rw [h]; decide), if_neg (by rw [h]; decide), if_neg (by rw [h]; decide), if_pos h]
theorem accP_32 {S N : Int} {w : W8} (h : w.pc = 32) : accP S N w = (3, S + 4 * N, w.r6, (hdC w.r6 + 1) * 1048576 + w.r5) := by unfold accP; rw [if_neg (by rw [h]; decide), if_neg (by rw [h]; decide), if_neg (by rw [h]; decide), if_neg (by rw [h]; decide), if_neg (by rw [h]; decide), if_neg (by rw [h]; decide), if_neg (by rw [h]; decide), if_neg (by rw [h]; decide)]
theorem behP_0 {S : Int} {w : W8} {x : Int} {dn : Bool} (h : w.pc = 0) : behP S w x dn = if x < 1 then if w.r5 = 0 then { w with pc := 10 } else { w with pc := 20 } else { w with r6 := x - 1, r7 := 0, pc := 1 } := by unfold behP; rw [if_pos h]
theorem behP_1 {S : Int} {w : W8} {x : Int} {dn : Bool} (h : w.pc = 1) : behP S w x dn = if x = kdH (kdW8 w) w.r7.toNat then if w.r7 + 1 = 4 then endP { w with r7 := w.r7 + 1 } w.r6 else { w with r7 := w.r7 + 1 } else if w.r4 + 1 = S then endP { w with r4 := w.r4 + 1 } (-1) else { w with r4 := w.r4 + 1, pc := 0 } := by unfold behP; rw [if_neg (by rw [h]; decide), if_pos h]
theorem behP_10 {S : Int} {w : W8} {x : Int} {dn : Bool} (h : w.pc = 10) : behP S w x dn = if hdH x = 0 then endP { w with r6 := x } (-1) else { w with r6 := x, pc := 11 } := by unfold behP; rw [if_neg (by rw [h]; decide), if_neg (by rw [h]; decide), if_pos h]
theorem behP_11 {S : Int} {w : W8} {x : Int} {dn : Bool} (h : w.pc = 11) : behP S w x dn = { w with r7 := x, pc := 12 } := by unfold behP; rw [if_neg (by rw [h]; decide), if_neg (by rw [h]; decide), if_neg (by rw [h]; decide), if_pos h]
theorem behP_12 {S : Int} {w : W8} {x : Int} {dn : Bool} (h : w.pc = 12) : behP S w x dn = if dn = true then { w with r5 := hdH w.r6, r7 := 0, pc := 13 } else { w with pc := 10 } := by unfold behP; rw [if_neg (by rw [h]; decide), if_neg (by rw [h]; decide), if_neg (by rw [h]; decide), if_neg (by rw [h]; decide), if_pos h]
theorem behP_13 {S : Int} {w : W8} {x : Int} {dn : Bool} (h : w.pc = 13) : behP S w x dn = if w.r7 + 1 = 4 then { w with r7 := w.r7 + 1, pc := 20 } else { w with r7 := w.r7 + 1 } := by unfold behP; rw [if_neg (by rw [h]; decide), if_neg (by rw [h]; decide), if_neg (by rw [h]; decide), if_neg (by rw [h]; decide), if_neg (by rw [h]; decide), if_pos h]
theorem behP_20 {S : Int} {w : W8} {x : Int} {dn : Bool} (h : w.pc = 20) : behP S w x dn = if dn = true then { w with done := true, out := w.r5 - 1 } else { w with pc := 0 } := by unfold behP; rw [if_neg (by rw [h]; decide), if_neg (by rw [h]; decide), if_neg (by rw [h]; decide), if_neg (by rw [h]; decide), if_neg (by rw [h]; decide), if_neg (by rw [h]; decide), if_pos h]
theorem behP_30 {S : Int} {w : W8} {x : Int} {dn : Bool} (h : w.pc = 30) : behP S w x dn = { w with r6 := x, pc := 31 } := by unfold behP; rw [if_neg (by rw [h]; decide), if_neg (by rw [h]; decide), if_neg (by rw [h]; decide), if_neg (by rw [h]; decide), if_neg (by rw [h]; decide), if_neg (by rw [h]; decide), if_neg (by rw [h]; decide), if_pos h]
theorem behP_31 {S : Int} {w : W8} {x : Int} {dn : Bool} (h : w.pc = 31) : behP S w x dn = { w with pc := 32 } := by unfold behP; rw [if_neg (by rw [h]; decide), if_neg (by rw [h]; decide), if_neg (by rw [h]; decide), if_neg (by rw [h]; decide), if_neg (by rw [h]; decide), if_neg (by rw [h]; decide), if_neg (by rw [h]; decide), if_neg (by rw [h]; decide), if_pos h]
theorem behP_32 {S : Int} {w : W8} {x : Int} {dn : Bool} (h : w.pc = 32) : behP S w x dn = if dn = true then { w with pc := 32, r5 := 0, done := true } else { w with pc := 30 } := by unfold behP; rw [if_neg (by rw [h]; decide), if_neg (by rw [h]; decide), if_neg (by rw [h]; decide), if_neg (by rw [h]; decide), if_neg (by rw [h]; decide), if_neg (by rw [h]; decide), if_neg (by rw [h]; decide), if_neg (by rw [h]; decide), if_neg (by rw [h]; decide)]
/-- how far a worker is from its end, but for what others do -/
def lrkP (S c : Nat) (m : List Int) (w : W8) : Nat :=
  if w.done = true then 0
  else if w.pc = 0 then 8 * (S - w.r4.toNat) + 3 + (if 0 < m.getD (atP S (kdW8 w) w.r4.toNat) 0 then 2 else 4) + (if w.r5 = 0 then 10 else 0)
  else if w.pc = 1 then 8 * (S - w.r4.toNat) + (4 - w.r7.toNat) + (if w.r5 = 0 then 10 else 0)
  else if w.pc = 10 then 8 * (S - w.r4.toNat) + 13
  else if w.pc = 11 then 8 * (S - w.r4.toNat) + 12 + (if hdC w.r6 < c then 3 else 0)
  else if w.pc = 12 then 8 * (S - w.r4.toNat) + 11 + (if hdC w.r6 < c then 3 else 0)
  else if w.pc = 13 then 8 * (S - w.r4.toNat) + 10 - w.r7.toNat
  else if w.pc = 20 then 8 * (S - w.r4.toNat) + 6
  else if w.pc = 30 then 3
  else if w.pc = 31 then 2 + (if hdC w.r6 < c then 3 else 0)
  else 1 + (if hdC w.r6 < c then 3 else 0)
theorem lrkP_done {S c : Nat} {m : List Int} {w : W8} (hd : w.done = true) : lrkP S c m w = 0 := by unfold lrkP; rw [if_pos hd]
theorem lrkP_0 {S c : Nat} {m : List Int} {w : W8} (hd : w.done = false) (h : w.pc = 0) : lrkP S c m w = 8 * (S - w.r4.toNat) + 3 + (if 0 < m.getD (atP S (kdW8 w) w.r4.toNat) 0 then 2 else 4) + (if w.r5 = 0 then 10 else 0) := by unfold lrkP; rw [if_neg (by rw [hd]; decide), if_pos h]
theorem lrkP_1 {S c : Nat} {m : List Int} {w : W8} (hd : w.done = false) (h : w.pc = 1) : lrkP S c m w = 8 * (S - w.r4.toNat) + (4 - w.r7.toNat) + (if w.r5 = 0 then 10 else 0) := by unfold lrkP; rw [if_neg (by rw [hd]; decide), if_neg (by rw [h]; decide), if_pos h]
theorem lrkP_10 {S c : Nat} {m : List Int} {w : W8} (hd : w.done = false) (h : w.pc = 10) : lrkP S c m w = 8 * (S - w.r4.toNat) + 13 := by unfold lrkP; rw [if_neg (by rw [hd]; decide), if_neg (by rw [h]; decide), if_neg (by rw [h]; decide), if_pos h]
theorem lrkP_11 {S c : Nat} {m : List Int} {w : W8} (hd : w.done = false) (h : w.pc = 11) : lrkP S c m w = 8 * (S - w.r4.toNat) + 12 + (if hdC w.r6 < c then 3 else 0) := by unfold lrkP; rw [if_neg (by rw [hd]; decide), if_neg (by rw [h]; decide), if_neg (by rw [h]; decide), if_neg (by rw [h]; decide), if_pos h]
theorem lrkP_12 {S c : Nat} {m : List Int} {w : W8} (hd : w.done = false) (h : w.pc = 12) : lrkP S c m w = 8 * (S - w.r4.toNat) + 11 + (if hdC w.r6 < c then 3 else 0) := by unfold lrkP; rw [if_neg (by rw [hd]; decide), if_neg (by rw [h]; decide), if_neg (by rw [h]; decide), if_neg (by rw [h]; decide), if_neg (by rw [h]; decide), if_pos h]
theorem lrkP_13 {S c : Nat} {m : List Int} {w : W8} (hd : w.done = false) (h : w.pc = 13) : lrkP S c m w = 8 * (S - w.r4.toNat) + 10 - w.r7.toNat := by unfold lrkP; rw [if_neg (by rw [hd]; decide), if_neg (by rw [h]; decide), if_neg (by rw [h]; decide), if_neg (by rw [h]; decide), if_neg (by rw [h]; decide), if_neg (by rw [h]; decide), if_pos h]
theorem lrkP_20 {S c : Nat} {m : List Int} {w : W8} (hd : w.done = false) (h : w.pc = 20) : lrkP S c m w = 8 * (S - w.r4.toNat) + 6 := by unfold lrkP; rw [if_neg (by rw [hd]; decide), if_neg (by rw [h]; decide), if_neg (by rw [h]; decide), if_neg (by rw [h]; decide), if_neg (by rw [h]; decide), if_neg (by rw [h]; decide), if_neg (by rw [h]; decide), if_pos h]
theorem lrkP_30 {S c : Nat} {m : List Int} {w : W8} (hd : w.done = false) (h : w.pc = 30) : lrkP S c m w = 3 := by unfold lrkP; rw [if_neg (by rw [hd]; decide), if_neg (by rw [h]; decide), if_neg (by rw [h]; decide), if_neg (by rw [h]; decide), if_neg (by rw [h]; decide), if_neg (by rw [h]; decide), if_neg (by rw [h]; decide), if_neg (by rw [h]; decide), if_pos h]
theorem lrkP_31 {S c : Nat} {m : List Int} {w : W8} (hd : w.done = false) (h : w.pc = 31) : lrkP S c m w = 2 + (if hdC w.r6 < c then 3 else 0) := by unfold lrkP; rw [if_neg (by rw [hd]; decide), if_neg (by rw [h]; decide), if_neg (by rw [h]; decide), if_neg (by rw [h]; decide), if_neg (by rw [h]; decide), if_neg (by rw [h]; decide), if_neg (by rw [h]; decide), if_neg (by rw [h]; decide), if_neg (by rw [h]; decide), if_pos h]
theorem lrkP_32 {S c : Nat} {m : List Int} {w : W8} (hd : w.done = false) (h : w.pc = 32) : lrkP S c m w = 1 + (if hdC w.r6 < c then 3 else 0) := by unfold lrkP; rw [if_neg (by rw [hd]; decide), if_neg (by rw [h]; decide), if_neg (by rw [h]; decide), if_neg (by rw [h]; decide), if_neg (by rw [h]; decide), if_neg (by rw [h]; decide), if_neg (by rw [h]; decide), if_neg (by rw [h]; decide), if_neg (by rw [h]; decide), if_neg (by rw [h]; decide)]
/-- how often a worker may change the head yet -/
def hcP (w : W8) : Nat := if w.done = true then 0 else if w.r5 = 0 then 2 else 1
/-- what became of a step -/
structure StP (S N c : Nat) (m : List Int) (L : List (Kd × Nat)) (F R : List Nat) (w : W8) (c' : Nat) (m' : List Int) (L' : List (Kd × Nat)) (F' : List Nat) (w' : W8) : Prop where
  step : stepP S N m w = (m', w', 0)
  kd : kdW8 w' = kdW8 w
  tab : TabI S N c' m' L' F' (ownW w' ++ R)
  win : WIn S N c' m' L' F' w'
  onw : Onw S N c m L F c' m' L' F' R
  put : L' = L ∨ (∃ n, L' = L ++ [(kdW8 w, n)] ∧ w'.done = true)
  room : w'.out = -1 → w.out = -1 ∨ L.length = S ∨ (F = [] ∧ w.r5 = 0)
theorem Onw.same {S N c : Nat} {m : List Int} {L : List (Kd × Nat)} {F K : List Nat} : Onw S N c m L F c m L F K := ⟨fun _ _ _ => rfl, fun _ _ => rfl, fun _ _ => ⟨rfl, rfl⟩, fun _ h => h, .inr ⟨rfl, rfl, fun _ _ => rfl⟩⟩
/-- a step that changes no word -/
theorem StP.quiet {S N c : Nat} {m : List Int} {L : List (Kd × Nat)} {F R : List Nat} {w w' : W8} (h : TabI S N c m L F (ownW w ++ R)) (hs : stepP S N m w = (m, w', 0)) (hk : kdW8 w' = kdW8 w) (ho : ownW w' = ownW w) (hw : WIn S N c m L F w') (hr : w'.out = -1 → w.out = -1 ∨ L.length = S ∨ (F = [] ∧ w.r5 = 0)) : StP S N c m L F R w c m L F w' :=
  ⟨hs, hk, by rw [ho]; exact h, hw, Onw.same, .inl rfl, hr⟩
theorem slot_acc {S N : Nat} {m : List Int} {w : W8} {p : Nat} (hp : PathP S m w p) (hs1 : 1 ≤ S) (hs2 : S ≤ 4000) : slotP S w = ((atP S (kdW8 w) p : Nat) : Int) := by
  unfold slotP slotH
  have := ofH_lt (kdW8 w)
  have := hp.lt
  rw [hp.r4, if_neg (by omega)]
  unfold atP
  rw [Int.natCast_emod, Int.natCast_add]
section
variable {S N c : Nat} {m : List Int} {L : List (Kd × Nat)} {F R : List Nat} {w : W8}
theorem step_look (h : TabI S N c m L F (ownW w ++ R)) {p : Nat} (hd : w.done = false) (hpc : w.pc = 0) (hp : PathP S m w p) (hn : HasN S m w) : ∃ w', StP S N c m L F R w c m L F w' ∧ lrkP S c m w' < lrkP S c m w ∧ hcP w' = hcP w := by
  have hT := h.tab
  have hs1 := hT.s1
  have hs2 := hT.s2
  have hl := hT.len
  have hn2 := hT.n2
  have hat : atP S (kdW8 w) p < S := Nat.mod_lt _ (by omega)
  obtain ⟨b1, b2⟩ := hT.slots _ hat
  have hst := stepP_load (S := S) (N := N) (m := m) ((accP_0 hpc).trans (by rw [slot_acc (N := N) hp hs1 hs2])) (by omega) (by omega)
  rw [behP_0 hpc] at hst
  have hr4 : w.r4.toNat = p := by rw [hp.r4]; exact Int.toNat_natCast p
  have hpl := hp.lt
  rw [lrkP_0 hd hpc, hr4]
  generalize hx : m.getD (atP S (kdW8 w) p) 0 = x at *
  by_cases hz : x < 1
  · rw [if_pos hz] at hst
    rw [if_neg (show ¬ 0 < x by omega)]
    by_cases h5 : w.r5 = 0
    · rw [if_pos h5] at hst
      rw [if_pos h5]
      refine ⟨_, .quiet h hst rfl rfl (.head p hd rfl ⟨hp.r4, hp.lt, hp.lo⟩ h5) (fun e => .inl e), ?_, rfl⟩
      rw [lrkP_10 (w := { w with pc := 10 }) hd rfl]
      show 8 * (S - w.r4.toNat) + 13 < _
      rw [hr4]
      omega
    · rw [if_neg h5] at hst
      rw [if_neg h5]
      obtain ⟨n, e1, e2⟩ := hn.resolve_left h5
      refine ⟨_, .quiet h hst rfl rfl (.fill p n hd rfl ⟨hp.r4, hp.lt, hp.lo⟩ e1 e2) (fun e => .inl e), ?_, rfl⟩
      rw [lrkP_20 (w := { w with pc := 20 }) hd rfl]
      show 8 * (S - w.r4.toNat) + 6 < _
      rw [hr4]
      omega
  · rw [if_neg hz] at hst
    rw [if_pos (show 0 < x by omega)]
    obtain ⟨n, hnx⟩ : ∃ n : Nat, x - 1 = n := ⟨(x - 1).toNat, by omega⟩
    have hxx : m.getD (atP S (kdW8 w) p) 0 = (n : Int) + 1 := by rw [hx]; omega
    refine ⟨_, .quiet h hst rfl rfl (.comp p n 0 hd rfl ⟨hp.r4, hp.lt, hp.lo⟩ hn hnx hxx rfl (by omega) (fun i hi => absurd hi (Nat.not_lt_zero i))) (fun e => .inl e), ?_, rfl⟩
    rw [lrkP_1 (w := { w with r6 := x - 1, r7 := 0, pc := 1 }) hd rfl]
    show 8 * (S - w.r4.toNat) + (4 - 0) + (if w.r5 = 0 then 10 else 0) < _
    rw [hr4]
    omega
theorem TabI.allTaken {H : List Nat} (h : TabI S N c m L F H) {k : Kd} (ho : ∀ i, i < S → OtherP S m k i) : L.length = S := by
  rw [← h.cnt]
  have : (List.range S).countP (occP m) = (List.range S).length := by
    rw [List.countP_eq_length]
    intro s hs
    obtain ⟨i, hi, hie⟩ := atP_onto h.tab.s1 k (List.mem_range.1 hs)
    have := (ho i hi).1
    rw [hie] at this
    unfold occP
    simpa using this
  rw [this, List.length_range]
theorem hcP_end {w w' : W8} (hd : w'.done = true) : hcP w' ≤ hcP w := by
  have : hcP w' = 0 := by unfold hcP; rw [if_pos hd]
  omega
/-- it ends with a node, as its table has it -/
theorem end_ways {v : W8} {n : Int} (hk : kdW8 v = kdW8 w) (h5 : v.r5 = w.r5) (hdv : v.done = false) (hd : w.done = false) (hn : HasN S m w) (ho : n = -1 ∨ ∃ x : Nat, n = x ∧ (kdW8 w, x) ∈ L) (h : TabI S N c m L F (ownW w ++ R)) (hs : stepP S N m w = (m, endP v n, 0)) (hr : n = -1 → L.length = S ∨ (F = [] ∧ w.r5 = 0)) (hlr : 3 < lrkP S c m w) :
    ∃ w', StP S N c m L F R w c m L F w' ∧ lrkP S c m w' < lrkP S c m w ∧ hcP w' ≤ hcP w := by
  unfold endP at hs
  by_cases e : w.r5 = 0
  · rw [if_pos (h5.trans e)] at hs
    refine ⟨_, .quiet h hs hk ?_ (.ended rfl ?_) (fun e => .inr (hr e)), ?_, hcP_end rfl⟩
    · rw [ownW_done rfl, ownW_none e]
    · rcases ho with ho | ⟨x, h1, h2⟩
      · exact .inl ho
      · exact .inr ⟨x, h1, by rw [show kdW8 { v with out := n, done := true } = kdW8 w from hk]; exact h2⟩
    · rw [lrkP_done rfl]; omega
  · rw [if_neg (fun hc => e (h5.symm.trans hc))] at hs
    obtain ⟨y, e1, e2⟩ := hn.resolve_left e
    refine ⟨_, .quiet h hs hk ?_ (.back y hdv rfl (h5.trans e1) ?_) (fun e => .inr (hr e)), ?_, ?_⟩
    · rw [ownW_some hd e1]; exact ownW_some hdv (h5.trans e1)
    · rcases ho with ho | ⟨x, h1, h2⟩
      · exact .inl ho
      · exact .inr ⟨x, h1, by rw [show kdW8 { v with out := n, pc := 30 } = kdW8 w from hk]; exact h2⟩
    · rw [lrkP_30 (w := { v with out := n, pc := 30 }) hdv rfl]; exact hlr
    · unfold hcP
      rw [show ({ v with out := n, pc := 30 } : W8).done = false from hdv, hd, show ({ v with out := n, pc := 30 } : W8).r5 = w.r5 from h5]
      exact Nat.le_refl _
theorem step_comp (h : TabI S N c m L F (ownW w ++ R)) {p x j : Nat} (hd : w.done = false) (hpc : w.pc = 1) (hp : PathP S m w p) (hn : HasN S m w) (h6 : w.r6 = x) (hx : m.getD (atP S (kdW8 w) p) 0 = (x : Int) + 1) (h7 : w.r7 = j) (hj : j < 4) (he : ∀ i, i < j → kdH (kdAt S m x) i = kdH (kdW8 w) i) :
    ∃ w', StP S N c m L F R w c m L F w' ∧ lrkP S c m w' < lrkP S c m w ∧ hcP w' ≤ hcP w := by
  have hT := h.tab
  have hs1 := hT.s1
  have hs2 := hT.s2
  have hl := hT.len
  have hn2 := hT.n2
  have hat : atP S (kdW8 w) p < S := Nat.mod_lt _ (by omega)
  have hpl := hp.lt
  have hxN : x < N := by
    have := (hT.slots _ hat).2
    rw [hx] at this
    omega
  have hacc : accP S N w = (1, ((S + 4 * x + j : Nat) : Int), 0, 0) := by
    rw [accP_1 hpc]
    unfold kidP
    rw [h6, h7, if_neg (by omega)]
    have : ((S : Int) + 4 * (x : Int) + (j : Int)) = ((S + 4 * x + j : Nat) : Int) := by omega
    rw [this]
  have hst := stepP_load (S := S) (N := N) (m := m) hacc (by omega) (by omega)
  have hr7 : w.r7.toNat = j := by rw [h7]; exact Int.toNat_natCast j
  have hr4 : w.r4.toNat = p := by rw [hp.r4]; exact Int.toNat_natCast p
  have hlr : lrkP S c m w = 8 * (S - p) + (4 - j) + (if w.r5 = 0 then 10 else 0) := by rw [lrkP_1 hd hpc, hr4, hr7]
  rw [kdAt_get S m x hj, behP_1 hpc, hr7] at hst
  by_cases hk : kdH (kdAt S m x) j = kdH (kdW8 w) j
  · rw [if_pos hk] at hst
    have he' : ∀ i, i < j + 1 → kdH (kdAt S m x) i = kdH (kdW8 w) i := fun i hi => by
      by_cases hij : i < j
      · exact he i hij
      · rw [show i = j by omega]; exact hk
    by_cases hj4 : w.r7 + 1 = 4
    · rw [if_pos hj4] at hst
      have hke : kdAt S m x = kdW8 w := kd_ext8 fun i hi => he' i (by omega)
      obtain ⟨y, hy, hye⟩ := h.occ _ hat (by rw [hx]; omega)
      have hxy : x = y.2 := by rw [hx] at hye; omega
      have hmem : (kdW8 w, x) ∈ L := by
        have hky := h.kids y hy
        rw [← hxy, hke] at hky
        rw [hky, hxy]
        exact hy
      exact end_ways (v := { w with r7 := w.r7 + 1 }) rfl rfl hd hd hn (.inr ⟨x, h6, hmem⟩) h hst (fun e => by rw [h6] at e; omega) (by rw [hlr]; omega)
    · rw [if_neg hj4] at hst
      refine ⟨_, .quiet h hst rfl rfl (.comp p x (j + 1) hd hpc ⟨hp.r4, hp.lt, hp.lo⟩ hn h6 hx (by show w.r7 + 1 = _; rw [h7]; omega) (by omega) he') (fun e => .inl e), ?_, Nat.le_refl _⟩
      rw [lrkP_1 (w := { w with r7 := w.r7 + 1 }) hd hpc, hlr]
      show 8 * (S - w.r4.toNat) + (4 - (w.r7 + 1).toNat) + (if w.r5 = 0 then 10 else 0) < _
      rw [hr4, h7]
      omega
  · rw [if_neg hk] at hst
    have hne : kdAt S m x ≠ kdW8 w := fun e => hk (by rw [e])
    have hlo' : ∀ i, i < p + 1 → OtherP S m (kdW8 w) i := fun i hi => by
      by_cases hip : i < p
      · exact hp.lo i hip
      · rw [show i = p by omega]
        exact ⟨by rw [hx]; omega, by rw [hx, show ((x : Int) + 1 - 1).toNat = x by omega]; exact hne⟩
    by_cases hps : w.r4 + 1 = S
    · rw [if_pos hps] at hst
      have hpS : p + 1 = S := by rw [hp.r4] at hps; omega
      rw [hpS] at hlo'
      exact end_ways (v := { w with r4 := w.r4 + 1 }) rfl rfl hd hd hn (.inl rfl) h hst (fun _ => .inl (h.allTaken hlo')) (by rw [hlr]; omega)
    · rw [if_neg hps] at hst
      have hpS : p + 1 < S := by rw [hp.r4] at hps; omega
      have hr4' : w.r4 + 1 = ((p + 1 : Nat) : Int) := by rw [hp.r4]; omega
      refine ⟨_, .quiet h hst rfl rfl (.look (p + 1) hd rfl ⟨hr4', hpS, hlo'⟩ hn) (fun e => .inl e), ?_, Nat.le_refl _⟩
      rw [lrkP_0 (w := { w with r4 := w.r4 + 1, pc := 0 }) hd rfl, hlr]
      show 8 * (S - (w.r4 + 1).toNat) + 3 + (if 0 < m.getD (atP S (kdW8 w) (w.r4 + 1).toNat) 0 then 2 else 4) + (if w.r5 = 0 then 10 else 0) < _
      rw [hr4', Int.toNat_natCast]
      generalize m.getD (atP S (kdW8 w) (p + 1)) 0 = g
      generalize (if w.r5 = 0 then 10 else 0) = u
      split <;> omega
end
end Go.Proofs.Ytocepdhjkhhpfaa
namespace Go.Proofs.Ytocepdhjkhhpfaa
set_option maxRecDepth 100000
set_option linter.unusedVariables false
set_option linter.unusedSimpArgs false
open Go.RowKit Go.Sort

set_option maxHeartbeats 4000000 in
theorem hKidLoaded_any {w : World} {b : Nat} {u : W8} {S N : Int} {sl mp : Value} (h : HaAt w b u S N sl mp) (x : Int) (dn : Bool) (hS1 : 1 ≤ S) (hS2 : S ≤ 4000) (h4 : 0 ≤ u.r4) (h4b : u.r4 < S) (hpc : u.pc = 1) (h7 : 0 ≤ u.r7) (h7b : u.r7 ≤ 3) : Calls Try.prog 95 #[.pointer (some ⟨b, 0, none⟩), .int .i64 x, .bool dn] w (SetR8 b (behP S u x dn) S N sl mp w) := by
  have hP := Lib.hid (And.intro trivial fun (W : World) (hv : HaAt W b u S N sl mp) => hPass_any hv hS1 hS2 h4 h4b)
  have hE := Lib.hid (And.intro trivial fun (W : World) (v : W8) (n : Int) (hv : HaAt W b v S N sl mp) => hEndWith_any hv n)
  rw [behP_1 hpc]
  obtain ⟨Z, hZ⟩ : ∃ Z, Z = (if u.r4 + 1 = S then endP { u with r4 := u.r4 + 1 } (-1) else { u with r4 := u.r4 + 1, pc := 0 }) := ⟨_, rfl⟩
  rw [← hZ] at hP ⊢
  clear hZ
  have hc := h.cs
  have c2 := hc.c2
  have c3 := hc.c3
  have c4 := hc.c4
  have c5 := hc.c5
  have c8 := hc.c8
  have c9 := hc.c9
  have f9 := h.fz 9
  clear hc
  have H := Lib.hid h.hg
  clear h hS1 hS2 h4 h4b hpc
  rcases (show u.r7 = 0 ∨ u.r7 = 1 ∨ u.r7 = 2 ∨ u.r7 = 3 by omega) with e7 | e7 | e7 | e7
  · as_aux_lemma =>
    clear h7 h7b
    rw [e7] at c9
    rw [show kdH (kdW8 u) u.r7.toNat = u.r0 by rw [e7]; rfl]
    by_cases hx : x = u.r0
    · rw [if_pos hx]
      rw [e7, if_neg (by decide), show ((0 : Int) + 1) = 1 from rfl]
      clear e7
      go_enter Try.func95, Try.ntmps95
      go_wp2
      go_region
      go_wp2
      go_region
      have H1 := Lib.hid ((H.out.put9 1).drew.drew)
      generalize (w.setCell ⟨b, 9, none⟩ (.int .i64 1)).drew.drew = W at *
      have c8' := H1.out.hat.cs.c8
      have c9' := H1.out.hat.cs.c9
      clear c2 c3 c4 c5 c8 c9 f9 H
      go_wp2
      go_end0
      exact ⟨rfl, H1.out⟩
    · rw [if_neg hx]
      clear e7
      go_enter Try.func95, Try.ntmps95
      go_wp2
      go_region
      have H1 := Lib.hid H.out.drew
      generalize w.drew = W at *
      go_wp2_with fail
      refine (hP.out.2 _ H1.out.hat).mono ?_
      rintro e w2 ⟨rfl, H2⟩
      go_wp2
      go_end0
      exact ⟨rfl, H2.hat, H1.out.gr.trans H2.gr⟩
  · as_aux_lemma =>
    clear h7 h7b
    rw [e7] at c9
    rw [show kdH (kdW8 u) u.r7.toNat = u.r1 by rw [e7]; rfl]
    by_cases hx : x = u.r1
    · rw [if_pos hx]
      rw [e7, if_neg (by decide), show ((1 : Int) + 1) = 2 from rfl]
      clear e7
      go_enter Try.func95, Try.ntmps95
      go_wp2
      go_region
      go_wp2
      go_region
      have H1 := Lib.hid ((H.out.put9 2).drew.drew)
      generalize (w.setCell ⟨b, 9, none⟩ (.int .i64 2)).drew.drew = W at *
      have c8' := H1.out.hat.cs.c8
      have c9' := H1.out.hat.cs.c9
      clear c2 c3 c4 c5 c8 c9 f9 H
      go_wp2
      go_end0
      exact ⟨rfl, H1.out⟩
    · rw [if_neg hx]
      clear e7
      go_enter Try.func95, Try.ntmps95
      go_wp2
      go_region
      have H1 := Lib.hid H.out.drew
      generalize w.drew = W at *
      go_wp2_with fail
      refine (hP.out.2 _ H1.out.hat).mono ?_
      rintro e w2 ⟨rfl, H2⟩
      go_wp2
      go_end0
      exact ⟨rfl, H2.hat, H1.out.gr.trans H2.gr⟩
  · as_aux_lemma =>
    clear h7 h7b
    rw [e7] at c9
    rw [show kdH (kdW8 u) u.r7.toNat = u.r2 by rw [e7]; rfl]
    by_cases hx : x = u.r2
    · rw [if_pos hx]
      rw [e7, if_neg (by decide), show ((2 : Int) + 1) = 3 from rfl]
      clear e7
      go_enter Try.func95, Try.ntmps95
      go_wp2
      go_region
      go_wp2
      go_region
      have H1 := Lib.hid ((H.out.put9 3).drew.drew)
      generalize (w.setCell ⟨b, 9, none⟩ (.int .i64 3)).drew.drew = W at *
      have c8' := H1.out.hat.cs.c8
      have c9' := H1.out.hat.cs.c9
      clear c2 c3 c4 c5 c8 c9 f9 H
      go_wp2
      go_end0
      exact ⟨rfl, H1.out⟩
    · rw [if_neg hx]
      clear e7
      go_enter Try.func95, Try.ntmps95
      go_wp2
      go_region
      have H1 := Lib.hid H.out.drew
      generalize w.drew = W at *
      go_wp2_with fail
      refine (hP.out.2 _ H1.out.hat).mono ?_
      rintro e w2 ⟨rfl, H2⟩
      go_wp2
      go_end0
      exact ⟨rfl, H2.hat, H1.out.gr.trans H2.gr⟩
  · as_aux_lemma =>
    clear h7 h7b
    rw [e7] at c9
    rw [show kdH (kdW8 u) u.r7.toNat = u.r3 by rw [e7]; rfl]
    by_cases hx : x = u.r3
    · rw [if_pos hx]
      rw [e7, if_pos (by decide), show ((3 : Int) + 1) = 4 from rfl]
      clear e7
      go_enter Try.func95, Try.ntmps95
      go_wp2
      go_region
      go_wp2
      go_region
      have H1 := Lib.hid ((H.out.put9 4).drew.drew)
      generalize (w.setCell ⟨b, 9, none⟩ (.int .i64 4)).drew.drew = W at *
      have c8' := H1.out.hat.cs.c8
      have c9' := H1.out.hat.cs.c9
      clear c2 c3 c4 c5 c8 c9 f9 H
      go_wp2_with fail
      refine (hE.out.2 _ _ _ H1.out.hat).mono ?_
      rintro e w2 ⟨rfl, H2⟩
      go_wp2
      go_end0
      exact ⟨rfl, H2.hat, H1.out.gr.trans H2.gr⟩
    · rw [if_neg hx]
      clear e7
      go_enter Try.func95, Try.ntmps95
      go_wp2
      go_region
      have H1 := Lib.hid H.out.drew
      generalize w.drew = W at *
      go_wp2_with fail
      refine (hP.out.2 _ H1.out.hat).mono ?_
      rintro e w2 ⟨rfl, H2⟩
      go_wp2
      go_end0
      exact ⟨rfl, H2.hat, H1.out.gr.trans H2.gr⟩
end Go.Proofs.Ytocepdhjkhhpfaa
