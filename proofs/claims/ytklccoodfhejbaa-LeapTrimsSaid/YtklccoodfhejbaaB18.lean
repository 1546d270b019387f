/-
  Texts that the claims of this seat share, part 18.
-/
import Derived.Test.YtklccoodfhejbaaB17
set_option linter.unusedVariables false
set_option linter.unusedSimpArgs false
namespace Go.Proofs.Ytklccoodfhejbaa
set_option maxRecDepth 100000
set_option linter.unusedVariables false
set_option linter.unusedSimpArgs false
open Go.RowKit Go.Sort

/-- within base.made of nine: the store, what is told, nothing -/
structure E9 (w wr : World) (A : Option Addr) (n c : Nat) (room : Int) : Prop where
  st : wr.heap[w.heap.size]? = some (.cells #[.slice A n c, .int .i64 room] 26 (0, 0))
  res : wr.heap[w.heap.size + 1]? = some (.cells #[.slice none 0 0, .int .i64 0] 26 (0, 0))
  row : N9 wr (w.heap.size + 2) (fun _ => 0)
  non : N9 wr (w.heap.size + 3) (fun _ => 0)
  bel : Below w.heap.size w wr
theorem E9.size {w wr : World} {A : Option Addr} {n c : Nat} {room : Int} (h : E9 w wr A n c room) : w.heap.size + 4 ≤ wr.heap.size := lt_heap6 h.non
theorem E9.low {w wr w' : World} {A : Option Addr} {n c : Nat} {room : Int} (h : E9 w wr A n c room) (hb : Below (w.heap.size + 4) wr w') : E9 w w' A n c room :=
  ⟨(hb.block _ (by omega)).trans h.st, (hb.block _ (by omega)).trans h.res, (hb.block _ (by omega)).trans h.row, (hb.block _ (by omega)).trans h.non, h.bel.trans (hb.mono (by omega))⟩
theorem E9.below {w wr w' : World} {A : Option Addr} {n c : Nat} {room : Int} (h : E9 w wr A n c room) (hb : Below wr.heap.size wr w') : E9 w w' A n c room := h.low (hb.mono h.size)
theorem E9.s0 {w wr : World} {A : Option Addr} {n c : Nat} {room : Int} (h : E9 w wr A n c room) : wr.cell? ⟨w.heap.size, 0, none⟩ = some (.slice A n c) := by rw [Lib.cell_of_heap h.st]; rfl
theorem E9.s1 {w wr : World} {A : Option Addr} {n c : Nat} {room : Int} (h : E9 w wr A n c room) : wr.cell? ⟨w.heap.size, 1, none⟩ = some (.int .i64 room) := by rw [Lib.cell_of_heap h.st]; rfl
theorem E9.r0 {w wr : World} {A : Option Addr} {n c : Nat} {room : Int} (h : E9 w wr A n c room) : wr.cell? ⟨w.heap.size + 1, 0, none⟩ = some (.slice none 0 0) := by rw [Lib.cell_of_heap h.res]; rfl
theorem E9.r1 {w wr : World} {A : Option Addr} {n c : Nat} {room : Int} (h : E9 w wr A n c room) : wr.cell? ⟨w.heap.size + 1, 1, none⟩ = some (.int .i64 0) := by rw [Lib.cell_of_heap h.res]; rfl
theorem E9.free {w wr : World} {A : Option Addr} {n c : Nat} {room : Int} (h : E9 w wr A n c room) (j : Nat) : wr.frozen? ⟨w.heap.size + 1, j, none⟩ = false := Lib.frozen_of_heap h.res j
section
variable {w W : World} {C : World → Prop} {B : Nat} {x y : Value} {f : Nat → Int}
end
/-- a class of worlds: a store's row, and nine numbers, outside of what is told -/
def K9 (w : World) (g q : Nat) (cs : Array Value) (T : Nat) (f : Nat → Int) (W : World) : Prop := W.heap[g]? = some (.cells cs T (0, 0)) ∧ N9 W q f ∧ (g ≠ w.heap.size + 1 ∧ g ≠ w.heap.size + 2 ∧ q ≠ w.heap.size + 1 ∧ q ≠ w.heap.size + 2)
theorem K9.set {w W : World} {g q T : Nat} {cs : Array Value} {f : Nat → Int} (h : K9 w g q cs T f W) {b : Nat} (hb : b = w.heap.size + 1 ∨ b = w.heap.size + 2) (j : Nat) (u : Value) : K9 w g q cs T f (W.setCell ⟨b, j, none⟩ u) := by
  obtain ⟨h1, h2, h3, h4, h5, h6⟩ := h
  refine ⟨(Below.heap_setCell _ _ _ _ ?_).trans h1, (Below.heap_setCell _ _ _ _ ?_).trans h2, h3, h4, h5, h6⟩
  · show g ≠ b
    omega
  · show q ≠ b
    omega
theorem K9.two {w W : World} {g q T : Nat} {cs : Array Value} {f : Nat → Int} (h : K9 w g q cs T f W) (u v : Value) : K9 w g q cs T f ((W.setCell ⟨w.heap.size + 1, 0, none⟩ u).setCell ⟨w.heap.size + 1, 1, none⟩ v) := (h.set (.inl rfl) 0 u).set (.inl rfl) 1 v
theorem K9.all {w W : World} {g q T : Nat} {cs : Array Value} {f : Nat → Int} (h : K9 w g q cs T f W) (u v : Value) (x0 x1 x2 x3 x4 x5 x6 x7 x8 : Int) : K9 w g q cs T f (((((((((((W.setCell ⟨w.heap.size + 1, 0, none⟩ u).setCell ⟨w.heap.size + 1, 1, none⟩ v).setCell ⟨w.heap.size + 2, 0, none⟩ (.int .i64 x0)).setCell ⟨w.heap.size + 2, 1, none⟩ (.int .i64 x1)).setCell ⟨w.heap.size + 2, 2, none⟩ (.int .i64 x2)).setCell ⟨w.heap.size + 2, 3, none⟩ (.int .i64 x3)).setCell ⟨w.heap.size + 2, 4, none⟩ (.int .i64 x4)).setCell ⟨w.heap.size + 2, 5, none⟩ (.int .i64 x5)).setCell ⟨w.heap.size + 2, 6, none⟩ (.int .i64 x6)).setCell ⟨w.heap.size + 2, 7, none⟩ (.int .i64 x7)).setCell ⟨w.heap.size + 2, 8, none⟩ (.int .i64 x8)) :=
  (((((((((h.two u v).set (.inr rfl) 0 _).set (.inr rfl) 1 _).set (.inr rfl) 2 _).set (.inr rfl) 3 _).set (.inr rfl) 4 _).set (.inr rfl) 5 _).set (.inr rfl) 6 _).set (.inr rfl) 7 _).set (.inr rfl) 8 _
theorem K9.c0 {w W : World} {g q T : Nat} {cs : Array Value} {f : Nat → Int} (h : K9 w g q cs T f W) (j : Nat) : W.cell? ⟨g, j, none⟩ = cs[j]? := Lib.cell_of_heap h.1 j
end Go.Proofs.Ytklccoodfhejbaa
namespace Go.Proofs.Ytklccoodfhejbaa
set_option maxRecDepth 100000
set_option linter.unusedVariables false
set_option linter.unusedSimpArgs false
open Go.RowKit Go.Sort

abbrev makerL (g mb : Nat) : Value := .agg #[.pointer (some ⟨g, 0, none⟩), .map (some mb)]
/-- a maker of package leap in a box -/
def ML (w : World) (b g mb : Nat) : Prop := w.heap[b]? = some (.cells #[.pointer (some ⟨g, 0, none⟩), .map (some mb)] 76 (0, 0))
section
variable {w w' : World} {b g mb : Nat}
theorem ML.kp (h : ML w b g mb) (hk : Kp w w') : ML w' b g mb := hk _ _ _ _ h ⟨.inl (by decide), by decide⟩
theorem ML.c0 (h : ML w b g mb) : w.cell? ⟨b, 0, none⟩ = some (.pointer (some ⟨g, 0, none⟩)) := by rw [Lib.cell_of_heap h]; rfl
theorem ML.c1 (h : ML w b g mb) : w.cell? ⟨b, 1, none⟩ = some (.map (some mb)) := by rw [Lib.cell_of_heap h]; rfl
theorem ML.below (h : ML w b g mb) (hb : Below w.heap.size w w') : ML w' b g mb := (hb.block _ (lt_heap6 h)).trans h
end
set_option maxHeartbeats 4000000 in
theorem levelL_any (room : Int) (n0 g b mb : Nat) (l : List Nd) (n : Nat) (hn : n < l.length) (w : World) (hix : Ix n0 w g b l room) (hr : Right6 l room) : Calls Try.prog 41 #[makerL g mb, .int .i64 (n : Int)] w fun r w' => r = .returned (.int .i64 (l.getD n deadN).1) ∧ Below w.heap.size w w' := by
  have hal := (Below.refl w.heap.size w).alloc (Nat.le_refl _) (.cells #[.pointer (some ⟨g, 0, none⟩), .map (some mb)] 76)
  have hM : ML (w.alloc (.cells #[.pointer (some ⟨g, 0, none⟩), .map (some mb)] 76)) w.heap.size g mb := heap_alloc_new w _
  obtain ⟨q, cap, g0, g1, hrd, hcap, hnd⟩ := ix_rd (hix.below hal) hr.two
  have m0 := hM.c0
  have m1 := hM.c1
  have HA := Lib.hid hal
  have h100 := hr.small
  have x0 := (hnd n hn).1
  have hkz : (n : Int) < (l.length : Int) := by omega
  generalize (l.getD n deadN).1 = lv at *
  clear hix hal hM hrd g1 hnd
  go_enter Try.func41, Try.ntmps41
  go_wp2_with fail
  go_ret
  exact ⟨rfl, HA.out⟩
end Go.Proofs.Ytklccoodfhejbaa
namespace Go.Proofs.Ytklccoodfhejbaa
set_option maxRecDepth 100000
set_option linter.unusedVariables false
set_option linter.unusedSimpArgs false
open Go.RowKit Go.Sort
open Go.Maps (Keyed)

theorem jumpKeyed : Keyed Try.prog 100 :=
  Keyed.of_law (deep_law_laid laidOut6 (m := 2) (by omega) (of_decide_eq_true (by kernel_rfl)) (by kernel_rfl) (by rw [Try.underlying100]))
/-- what a node and an exponent read as, as a key -/
def kj (n j : Int) : Lit := .string (keyBytes [.int .i64 n, .int .i64 j])
/-- what may be a key -/
def JKey (n j : Int) : Prop := (0 ≤ n ∧ n ≤ 100000) ∧ (0 ≤ j ∧ j ≤ 42)
theorem keyOf_jump {n j : Int} (h : JKey n j) : keyOf Try.prog 100 (.agg #[.int .i64 n, .int .i64 j]) = some (kj n j) := by
  have hkt : Try.prog.keyType 100 = true := by kernel_rfl
  have hsz : ∃ m, Try.prog.types.size = m + 1 := ⟨Try.prog.types.size - 1, by have : 0 < Try.prog.types.size := of_decide_eq_true (by kernel_rfl); omega⟩
  have hc2 : Try.prog.cellsOf 100 = 2 := by kernel_rfl
  have hc1 : Try.prog.cellsOf 3 = 1 := by kernel_rfl
  obtain ⟨m, hm⟩ := hsz
  have w1 := wf_small (a := n) ⟨h.1.1, by have := h.1.2; omega⟩
  have w2 := wf_small (a := j) ⟨h.2.1, by have := h.2.2; omega⟩
  unfold keyOf
  simp only [Try.underlying100]
  rw [if_pos (by simp [hkt, Value.formed, Try.underlying100, hc2]), hm]
  unfold Program.keyLits
  simp only [Try.underlying100, Value.cells]
  rw [if_pos (by rw [hc2]; simp)]
  simp [hc1, Program.keyLits, Try.underlying3, w1, w2, kj]
theorem kj_inj {n j n' j' : Int} (h : JKey n j) (h' : JKey n' j') (e : kj n j = kj n' j') : n = n' ∧ j = j' := by
  have h1 := keyOf_jump h
  have h2 := keyOf_jump h'
  rw [← e] at h2
  have := jumpKeyed.inj h1 h2
  injection this with this
  injection this with this
  injection this with h3 h4
  injection h4 with h4 _
  injection h3 with _ h3
  injection h4 with _ h4
  exact ⟨h3, h4⟩
abbrev MapJ (w : World) (b n : Nat) (D : DataW Unit) : Prop := w.ownsMap Try.prog 100 (plainElem Try.prog 3) b n D
/-! ### a map of leaps has no more entries than there are keys -/
theorem nodup_le {α : Type} : ∀ (l m : List α), l.Pairwise (fun x y => x ≠ y) → (∀ x ∈ l, x ∈ m) → l.length ≤ m.length := by
  classical
  intro l
  induction l with
  | nil => exact fun _ _ _ => Nat.zero_le _
  | cons x l ih =>
    intro m h hm
    rw [List.pairwise_cons] at h
    have hx := hm x (List.mem_cons_self ..)
    have := ih (m.erase x) h.2 fun y hy => (List.mem_erase_of_ne (h.1 y hy).symm).2 (hm y (List.mem_cons_of_mem _ hy))
    rw [List.length_erase_of_mem hx] at this
    have := List.length_pos_of_mem hx
    simp only [List.length_cons]
    omega
def jRow (n : Nat) : List Lit := (List.range 43).map fun j : Nat => kj (n : Int) (j : Int)
/-- all that may be keys -/
def jAll : List Lit := (List.range 100001).flatMap jRow
theorem jTo_len : ∀ N, ((List.range N).flatMap jRow).length = N * 43
  | 0 => rfl
  | N + 1 => by
    rw [List.range_succ, List.flatMap_append, List.length_append, jTo_len N]
    simp [jRow]
    omega
theorem mem_jAll {n j : Int} (h : JKey n j) : kj n j ∈ jAll := by
  unfold JKey at h
  refine List.mem_flatMap.2 ⟨n.toNat, List.mem_range.2 (by omega), List.mem_map.2 ⟨j.toNat, List.mem_range.2 (by omega), ?_⟩⟩
  rw [show ((n.toNat : Nat) : Int) = n by omega, show ((j.toNat : Nat) : Int) = j by omega]
theorem MapJ.tight {w : World} {b N : Nat} {D : DataW Unit} (h : MapJ w b N D) (hk : ∀ kl, Maps.has D kl = true → kl ∈ jAll) : MapJ w b 4300043 D := by
  obtain ⟨es, c, h1, F, h2, rfl⟩ := h
  refine ⟨es, c, h1, F, ?_, rfl⟩
  have hap := Go.Maps.fit_apart jumpKeyed F
  have hle := nodup_le ((es.toList.map (Go.WideElems.rg Try.prog 100 (plainElem Try.prog 3))).map (·.1)) jAll (by rw [List.pairwise_map]; exact hap) fun x hx => by
    obtain ⟨y, hy, rfl⟩ := List.mem_map.1 hx
    refine hk _ (List.any_eq_true.2 ⟨y, (Go.WideShapes.sorted_perm _).mem_iff.2 hy, Go.WideAt.sameKey_self ?_⟩)
    obtain ⟨x, hx', rfl⟩ := List.mem_map.1 hy
    obtain ⟨y', hy'⟩ := F.reads x hx'
    unfold Go.WideElems.rg
    rw [hy']
    unfold Go.WideElems.rd at hy'
    obtain ⟨key, hkey, hm⟩ := Option.bind_eq_some_iff.1 hy'
    obtain ⟨r, _, rfl⟩ := Option.map_eq_some_iff.1 hm
    exact jumpKeyed.key hkey
  have hl : jAll.length = 4300043 := jTo_len 100001
  rw [hl] at hle
  simpa using hle
/-- each of a map's leaps is what it is said to be -/
def SaysJ (D : DataW Unit) (ok : Int → Int → Int → Prop) : Prop := (Maps.IsMap D ∧ ∀ kl, Maps.has D kl = true → kl ∈ jAll) ∧ ∀ n j, JKey n j → Maps.has D (kj n j) = true → ∃ to : Int, D.atKey (kj n j) zero4 = .lit (.int .i64 to) ∧ ok n j to
theorem saysJ_new (ok : Int → Int → Int → Prop) : SaysJ (.map []) ok := ⟨⟨Maps.isMap_empty, fun kl h => by cases h⟩, fun n j _ h => by cases h⟩
theorem SaysJ.mono {D : DataW Unit} {ok ok' : Int → Int → Int → Prop} (h : SaysJ D ok) (hk : ∀ n j to, ok n j to → ok' n j to) : SaysJ D ok' := ⟨h.1, fun n j hj hh => by
  obtain ⟨to, e, h1⟩ := h.2 n j hj hh
  exact ⟨to, e, hk _ _ _ h1⟩⟩
theorem saysJ_put {D : DataW Unit} {ok : Int → Int → Int → Prop} {n j to : Int} (h : SaysJ D ok) (hj : JKey n j) (ht : ok n j to) : SaysJ (D.put (kj n j) (.lit (.int .i64 to))) ok := by
  refine ⟨⟨h.1.1.put _ _, fun kl hh => ?_⟩, fun q i hq hh => ?_⟩
  · by_cases e : kl = kj n j
    · rw [e]; exact mem_jAll hj
    · rw [Maps.has_put_other e] at hh
      exact h.1.2 kl hh
  have hkey : WideAt.IsKeyLit (kj n j) := jumpKeyed.key (keyOf_jump hj)
  by_cases e : q = n ∧ i = j
  · obtain ⟨rfl, rfl⟩ := e
    exact ⟨to, Maps.atKey_put_same h.1.1 hkey _ _, ht⟩
  · have hne : kj q i ≠ kj n j := fun e' => e (kj_inj hq hj e')
    rw [Maps.has_put_other hne] at hh
    rw [Maps.atKey_put_other hne]
    exact h.2 q i hq hh
/-- a look-up in it -/
theorem lookJ_run {W : World} {b N : Nat} {D : DataW Unit} {ok : Int → Int → Int → Prop} {n j : Int} (hm : MapJ W b N D) (hs : SaysJ D ok) (hj : JKey n j) :
    (∃ to : Int, ok n j to ∧ (Instr.lookup 74 (.map (some b)) (.agg #[.int .i64 n, .int .i64 j]) true).run Try.prog W = .ok (.tuple #[.int .i64 to, .bool true]) W) ∨ ∃ to : Int, (Instr.lookup 74 (.map (some b)) (.agg #[.int .i64 n, .int .i64 j]) true).run Try.prog W = .ok (.tuple #[.int .i64 to, .bool false]) W := by
  obtain ⟨v, ps, hrun, hv⟩ := hm.look_ok jumpKeyed Try.underlying74 (Try.zeroValue3 W) (plainElem_int Try.underlying3 (by decide)) (keyOf_jump hj)
  obtain ⟨a, rfl, hz, _⟩ := plainElem_int_inv Try.underlying3 hv
  have he : D.atKey (kj n j) zero4 = .lit (.int .i64 a) := congrArg Prod.fst hz
  cases hh : Maps.has D (kj n j) with
  | true =>
    obtain ⟨to, e, h1⟩ := hs.2 n j hj hh
    rw [he] at e
    injection e with e
    injection e with _ e
    subst e
    rw [hh] at hrun
    exact .inl ⟨_, h1, hrun⟩
  | false =>
    rw [hh] at hrun
    exact .inr ⟨_, hrun⟩
end Go.Proofs.Ytklccoodfhejbaa
namespace Go.Proofs.Ytklccoodfhejbaa
set_option maxRecDepth 100000
set_option linter.unusedVariables false
set_option linter.unusedSimpArgs false
open Go.RowKit Go.Sort

/-- a leap that is there already -/
def okJ (room : Int) (l : List Nd) (n j to : Int) : Prop := ∃ (k jn p e : Nat), n = k ∧ j = jn ∧ to = p ∧ Is l (e + 2) k ∧ jn ≤ e ∧ ∀ b, Grows l b → Right6 b room → leapN room e jn b k = (b, (p : Int), 0)
theorem okJ.grows {room : Int} {l m : List Nd} {n j to : Int} (g : Grows l m) (h : okJ room l n j to) : okJ room m n j to := by
  obtain ⟨k, jn, p, e, h1, h2, h3, h4, h5, h6⟩ := h
  exact ⟨k, jn, p, e, h1, h2, h3, h4.grows g, h5, fun b gb rb => h6 b (g.trans gb) rb⟩
/-- Below, and what is of other kinds than nodes and indexes is left alone. -/
structure BelL (n0 : Nat) (w w' : World) : Prop where
  bel : Below n0 w w'
  kp : Kp w w'
theorem BelL.refl (n0 : Nat) (w : World) : BelL n0 w w := ⟨Below.refl _ _, Kp.refl _⟩
theorem BelL.trans {n0 : Nat} {w w' w2 : World} (h : BelL n0 w w') (h2 : BelL n0 w' w2) : BelL n0 w w2 := ⟨h.bel.trans h2.bel, h.kp.trans h2.kp⟩
theorem BelL.of {n0 : Nat} {w w' : World} (hb : Below w.heap.size w w') (h : n0 ≤ w.heap.size) : BelL n0 w w' := ⟨hb.mono h, Kp.below hb⟩
theorem BelK.l {n0 b : Nat} {w w' : World} (h : BelK n0 b w w') : BelL n0 w w' := ⟨h.bel, h.kp⟩
theorem BelL.setNew {n0 : Nat} {w wr : World} (h : BelL n0 w wr) {kb : Nat} (hk : w.heap.size ≤ kb) (hn : n0 ≤ w.heap.size) (j : Nat) (u : Value) : BelL n0 w (wr.setCell ⟨kb, j, none⟩ u) := by
  refine ⟨h.bel.setCell (by show n0 ≤ kb; omega) _, fun i cs T fz hi h0 => ?_⟩
  rw [Below.heap_setCell _ _ _ _ (by show i ≠ kb; have := lt_heap6 hi; omega)]
  exact h.kp i cs T fz hi h0
/-- What is known while a store's nodes are leapt. -/
structure LIn (n0 : Nat) (w : World) (g b mb : Nat) (l : List Nd) (room : Int) : Prop where
  ix : Ix n0 w g b l room
  right : Right6 l room
  memo : ∃ N D, MapJ w mb N D ∧ SaysJ D (okJ room l)
  ne : mb ≠ b
  mB : n0 ≤ mb
section
variable {n0 g b mb : Nat} {w w' : World} {l m : List Nd} {room : Int}
theorem MapJ.at_ {N : Nat} {D : DataW Unit} (h : MapJ w mb N D) (he : w'.heap[mb]? = w.heap[mb]?) : MapJ w' mb N D := by
  obtain ⟨es, c, hb, r⟩ := h
  exact ⟨es, c, he.trans hb, r⟩
theorem LIn.below (h : LIn n0 w g b mb l room) (hb : Below w.heap.size w w') : LIn n0 w' g b mb l room := by
  obtain ⟨N, D, h1, h2⟩ := h.memo
  obtain ⟨es, c, hm, _⟩ := id h1
  exact ⟨h.ix.below hb, h.right, ⟨N, D, MapJ.at_ h1 (hb.block _ (lt_heap6 hm)), h2⟩, h.ne, h.mB⟩
/-- a maker of another layer made something -/
theorem LIn.base (h : LIn n0 w g b mb l room) (hk : BelK n0 b w w') (hi : Ix n0 w' g b m room) (hr : Right6 m room) (gr : Grows l m) : LIn n0 w' g b mb m room := by
  obtain ⟨N, D, h1, h2⟩ := h.memo
  obtain ⟨es, c, hm, _⟩ := id h1
  exact ⟨hi, hr, ⟨N, D, MapJ.at_ h1 ((hk.mp _ _ _ h.ne hm).trans hm.symm), h2.mono fun _ _ _ ho => ho.grows gr⟩, h.ne, h.mB⟩
theorem LIn.set (h : LIn n0 w g b mb l room) {kb : Nat} {cs : Array Value} {T : TypeId} {fz : Nat × Nat} (hk : w.heap[kb]? = some (.cells cs T fz)) (hoff : Off cs T) (j : Nat) (u : Value) : LIn n0 (w.setCell ⟨kb, j, none⟩ u) g b mb l room := by
  obtain ⟨N, D, h1, h2⟩ := h.memo
  obtain ⟨es, c, hm, _⟩ := id h1
  refine ⟨?_, h.right, ⟨N, D, MapJ.at_ h1 (Below.heap_setCell _ _ _ _ (by show mb ≠ kb; intro e; subst e; rw [hm] at hk; injection hk with hk; cases hk)), h2⟩, h.ne, h.mB⟩
  exact h.ix.setOff h.right.two hk hoff j u
end
/-- What a leap answers, and what uses one. -/
def LpR (z : Zn) (n0 g b mb : Nat) (room : Int) (w : World) (e : Ending) (w' : World) : Prop :=
  e = .returned (.tuple #[.int .i64 z.2.1, .int .i64 z.2.2]) ∧ (z.2.2 = 0 → LIn n0 w' g b mb z.1 room) ∧ BelL n0 w w'
/-- four numbers in a box -/
def N4 (w : World) (b : Nat) (f : Nat → Int) : Prop := w.heap[b]? = some (.cells #[.int .i64 (f 0), .int .i64 (f 1), .int .i64 (f 2), .int .i64 (f 3)] 33 (0, 0))
theorem N4.c {w : World} {b : Nat} {f : Nat → Int} (h : N4 w b f) {p : Nat} (hp : p < 4) : w.cell? ⟨b, p, none⟩ = some (.int .i64 (f p)) := by
  rw [Lib.cell_of_heap h]
  rcases (by omega : p = 0 ∨ p = 1 ∨ p = 2 ∨ p = 3) with rfl | rfl | rfl | rfl <;> rfl
theorem N4.f {w : World} {b : Nat} {f : Nat → Int} (h : N4 w b f) (p : Nat) : w.frozen? ⟨b, p, none⟩ = false := Lib.frozen_of_heap h p
theorem N4.set {w : World} {b : Nat} {f : Nat → Int} (h : N4 w b f) {p : Nat} (hp : p < 4) (x : Int) : N4 (w.setCell ⟨b, p, none⟩ (.int .i64 x)) b (fun i => if i = p then x else f i) := by
  unfold N4 at h ⊢
  rcases (by omega : p = 0 ∨ p = 1 ∨ p = 2 ∨ p = 3) with rfl | rfl | rfl | rfl <;> simp [World.setCell, Array.getElem?_modify, h]
theorem N4.kp {w w' : World} {b : Nat} {f : Nat → Int} (h : N4 w b f) (hk : Kp w w') : N4 w' b f := hk _ _ _ _ h ⟨.inl (by decide), by decide⟩
set_option maxHeartbeats 8000000 in
theorem each9_3 (F : Nat) (eg : ∀ args w, (callFunc F args).run Try.prog w = .ok (.enter F args) w) (k0 k1 k2 : Value) (n0 g b mb : Nat) (room : Int) (f : List Nd → Int → Zn) (l : List Nd) (p : Nat → Int) (qb : Nat) (P : World → Prop) (w : World) (hP0 : P w) (hPk : ∀ W W', P W → BelL n0 W W' → P W') (hPs : ∀ W j u, P W → P (W.setCell ⟨qb, j, none⟩ u))
    (hq : N9 w qb p) (hin : LIn n0 w g b mb l room) (hn0 : n0 ≤ qb)
    (hf : ∀ i, i < 9 → ∀ W, P W → LIn n0 W g b mb (eachTo f l p i).1 room → (eachTo f l p i).2.2 = 0 → Calls Try.prog F #[.int .i64 (p i), k0, k1, k2] W (LpR (f (eachTo f l p i).1 (p i)) n0 g b mb room W)) :
    Calls Try.prog 85 #[.slice (some ⟨qb, 0, none⟩) 9 9, .func (.func F) #[] #[k0, k1, k2]] w fun e w' => e = .returned (.int .i64 (eachTo f l p 9).2.2) ∧ ((eachTo f l p 9).2.2 = 0 → N9 w' qb (eachTo f l p 9).2.1 ∧ LIn n0 w' g b mb (eachTo f l p 9).1 room) ∧ P w' ∧ Below n0 w w' := by
  have HPK := Lib.hid hPk
  have HPS := Lib.hid hPs
  have HF := Lib.hid hf
  have HQ := Lib.hid hq
  have HI := Lib.hid hin
  have HP := Lib.hid hP0
  clear hPk hPs hf hq hin hP0
  go_enter Try.func85, Try.ntmps85
  go_wp2_with fail
  go_loopw [10] (fun u wr => ∃ i : Nat, i ≤ 9 ∧ u = .int .i64 i ∧ Hid (P wr) ∧ Hid (N9 wr qb (eachTo f l p i).2.1) ∧ Hid ((eachTo f l p i).2.2 = 0) ∧ Hid (LIn n0 wr g b mb (eachTo f l p i).1 room) ∧ Hid (Below n0 w wr)) (fun u _ => 9 - (intOf u).toNat)
  case atStart => exact ⟨0, by omega, rfl, HP.out, HQ.out, rfl, HI.out, Below.refl _ _⟩
  case round =>
    obtain ⟨i, hi, rfl, HP, HQ, HE, HI, HB⟩ := hrel
    by_cases hlt : i < 9
    · have hltz : (i : Int) < 9 := by omega
      have hpi : ∀ t, t ≤ 9 → ∀ s, t ≤ s → (eachTo f l p t).2.1 s = p s := fun t => by
        induction t with
        | zero => exact fun _ _ _ => rfl
        | succ t ih =>
          intro ht s hs
          unfold eachTo
          split
          · show (if s = t then _ else _) = _
            rw [if_neg (by omega)]
            exact ih (by omega) s (by omega)
          · exact ih (by omega) s (by omega)
      have c0 := HQ.out.c (p := i) (by omega)
      rw [hpi i (by omega) i (Nat.le_refl _)] at c0
      have hstep : eachTo f l p (i + 1) = ((f (eachTo f l p i).1 (p i)).1, fun t => if t = i then (f (eachTo f l p i).1 (p i)).2.1 else (eachTo f l p i).2.1 t, (f (eachTo f l p i).1 (p i)).2.2) := by
        show (if (eachTo f l p i).2.2 = 0 then _ else _) = _
        rw [if_pos HE.out]
      have hcall := HF.out i hlt wr HP.out HI.out HE.out
      obtain ⟨⟨zl, zn, ze⟩, hz⟩ : ∃ z, z = f (eachTo f l p i).1 (p i) := ⟨_, rfl⟩
      rw [← hz] at hcall hstep
      have HST := Lib.hid hstep
      generalize hpp : p i = pi at *
      clear hpi hstep hz HI
      go_wp2_with fail
      refine hcall.mono ?_
      rintro e w2 ⟨rfl, hl2, hb2⟩
      dsimp only at hl2
      have hq2 := HQ.out.kp hb2.kp
      have hP2 := HPK.out _ _ HP.out hb2
      have c1 := hq2.c (p := i) hlt
      have f1 := hq2.f i
      have hB2 := HB.out.trans hb2.bel
      have HQ3 := Lib.hid (hq2.set (p := i) hlt zn)
      have HP3 := Lib.hid (HPS.out _ i (.int .i64 zn) hP2)
      have HB3 := Lib.hid (hB2.setCell (p := ⟨qb, i, none⟩) hn0 (.int .i64 zn))
      by_cases hze : ze = 0
      · subst hze
        have HI3 := Lib.hid ((hl2 rfl).set hq2 ⟨.inl (by decide), by decide⟩ i (.int .i64 zn))
        clear hcall hl2 hb2 hq2 hP2 hB2 c0
        go_wp2_with fail
        go_roundw
        case measure => simp [intOf]; omega
        case rel => exact ⟨i + 1, by omega, by go_num, HP3.out, by rw [HST.out]; exact HQ3.out, by rw [HST.out]; rfl, by rw [HST.out]; exact HI3.out, HB3.out⟩
      · have hstop : ∀ d, (eachTo f l p (i + 1 + d)).2.2 = ze := fun d => by
          induction d with
          | zero => rw [Nat.add_zero, HST.out]
          | succ d ih =>
            show (if (eachTo f l p (i + 1 + d)).2.2 = 0 then _ else eachTo f l p (i + 1 + d)).2.2 = _
            rw [ih, if_neg hze]
            exact ih
        have h9 := hstop (9 - (i + 1))
        rw [show i + 1 + (9 - (i + 1)) = 9 by omega] at h9
        have hzb : (ze == 0) = false := beq_eq_false_iff_ne.2 hze
        have H9 := Lib.hid h9
        clear h9
        clear hcall hl2 hb2 hq2 hP2 hB2 c0 hstop
        go_wp2_with fail
        go_ret
        exact ⟨(by rw [H9.out]; first | done | rfl), fun h => absurd (H9.out.symm.trans h) hze, HP3.out, HB3.out⟩
    · obtain rfl : i = 9 := by omega
      have hltz : ¬ ((9 : Nat) : Int) < 9 := by decide
      go_wp2_with fail
      go_ret
      exact ⟨(by rw [HE.out]; first | done | rfl), fun _ => ⟨HQ.out, HI.out⟩, HP.out, HB.out⟩
set_option maxHeartbeats 8000000 in
theorem each9_b (F : Nat) (eg : ∀ args w, (callFunc F args).run Try.prog w = .ok (.enter F args) w) (k0 : Value) (n0 g b mb : Nat) (room : Int) (f : List Nd → Int → Zn) (l : List Nd) (p : Nat → Int) (qb : Nat) (P : World → Prop) (w : World) (hP0 : P w) (hPk : ∀ W W', P W → BelL n0 W W' → P W') (hPs : ∀ W j u, P W → P (W.setCell ⟨qb, j, none⟩ u))
    (hq : N9 w qb p) (hin : LIn n0 w g b mb l room) (hn0 : n0 ≤ qb)
    (hf : ∀ i, i < 9 → ∀ W, P W → LIn n0 W g b mb (eachTo f l p i).1 room → (eachTo f l p i).2.2 = 0 → Calls Try.prog F #[k0, .int .i64 (p i)] W (LpR (f (eachTo f l p i).1 (p i)) n0 g b mb room W)) :
    Calls Try.prog 85 #[.slice (some ⟨qb, 0, none⟩) 9 9, .func (.func F) #[k0] #[]] w fun e w' => e = .returned (.int .i64 (eachTo f l p 9).2.2) ∧ ((eachTo f l p 9).2.2 = 0 → N9 w' qb (eachTo f l p 9).2.1 ∧ LIn n0 w' g b mb (eachTo f l p 9).1 room) ∧ P w' ∧ Below n0 w w' := by
  have HPK := Lib.hid hPk
  have HPS := Lib.hid hPs
  have HF := Lib.hid hf
  have HQ := Lib.hid hq
  have HI := Lib.hid hin
  have HP := Lib.hid hP0
  clear hPk hPs hf hq hin hP0
  go_enter Try.func85, Try.ntmps85
  go_wp2_with fail
  go_loopw [10] (fun u wr => ∃ i : Nat, i ≤ 9 ∧ u = .int .i64 i ∧ Hid (P wr) ∧ Hid (N9 wr qb (eachTo f l p i).2.1) ∧ Hid ((eachTo f l p i).2.2 = 0) ∧ Hid (LIn n0 wr g b mb (eachTo f l p i).1 room) ∧ Hid (Below n0 w wr)) (fun u _ => 9 - (intOf u).toNat)
  case atStart => exact ⟨0, by omega, rfl, HP.out, HQ.out, rfl, HI.out, Below.refl _ _⟩
  case round =>
    obtain ⟨i, hi, rfl, HP, HQ, HE, HI, HB⟩ := hrel
    by_cases hlt : i < 9
    · have hltz : (i : Int) < 9 := by omega
      have hpi : ∀ t, t ≤ 9 → ∀ s, t ≤ s → (eachTo f l p t).2.1 s = p s := fun t => by
        induction t with
        | zero => exact fun _ _ _ => rfl
        | succ t ih =>
          intro ht s hs
          unfold eachTo
          split
          · show (if s = t then _ else _) = _
            rw [if_neg (by omega)]
            exact ih (by omega) s (by omega)
          · exact ih (by omega) s (by omega)
      have c0 := HQ.out.c (p := i) (by omega)
      rw [hpi i (by omega) i (Nat.le_refl _)] at c0
      have hstep : eachTo f l p (i + 1) = ((f (eachTo f l p i).1 (p i)).1, fun t => if t = i then (f (eachTo f l p i).1 (p i)).2.1 else (eachTo f l p i).2.1 t, (f (eachTo f l p i).1 (p i)).2.2) := by
        show (if (eachTo f l p i).2.2 = 0 then _ else _) = _
        rw [if_pos HE.out]
      have hcall := HF.out i hlt wr HP.out HI.out HE.out
      obtain ⟨⟨zl, zn, ze⟩, hz⟩ : ∃ z, z = f (eachTo f l p i).1 (p i) := ⟨_, rfl⟩
      rw [← hz] at hcall hstep
      have HST := Lib.hid hstep
      generalize hpp : p i = pi at *
      clear hpi hstep hz HI
      go_wp2_with fail
      refine hcall.mono ?_
      rintro e w2 ⟨rfl, hl2, hb2⟩
      dsimp only at hl2
      have hq2 := HQ.out.kp hb2.kp
      have hP2 := HPK.out _ _ HP.out hb2
      have c1 := hq2.c (p := i) hlt
      have f1 := hq2.f i
      have hB2 := HB.out.trans hb2.bel
      have HQ3 := Lib.hid (hq2.set (p := i) hlt zn)
      have HP3 := Lib.hid (HPS.out _ i (.int .i64 zn) hP2)
      have HB3 := Lib.hid (hB2.setCell (p := ⟨qb, i, none⟩) hn0 (.int .i64 zn))
      by_cases hze : ze = 0
      · subst hze
        have HI3 := Lib.hid ((hl2 rfl).set hq2 ⟨.inl (by decide), by decide⟩ i (.int .i64 zn))
        clear hcall hl2 hb2 hq2 hP2 hB2 c0
        go_wp2_with fail
        go_roundw
        case measure => simp [intOf]; omega
        case rel => exact ⟨i + 1, by omega, by go_num, HP3.out, by rw [HST.out]; exact HQ3.out, by rw [HST.out]; rfl, by rw [HST.out]; exact HI3.out, HB3.out⟩
      · have hstop : ∀ d, (eachTo f l p (i + 1 + d)).2.2 = ze := fun d => by
          induction d with
          | zero => rw [Nat.add_zero, HST.out]
          | succ d ih =>
            show (if (eachTo f l p (i + 1 + d)).2.2 = 0 then _ else eachTo f l p (i + 1 + d)).2.2 = _
            rw [ih, if_neg hze]
            exact ih
        have h9 := hstop (9 - (i + 1))
        rw [show i + 1 + (9 - (i + 1)) = 9 by omega] at h9
        have hzb : (ze == 0) = false := beq_eq_false_iff_ne.2 hze
        have H9 := Lib.hid h9
        clear h9
        clear hcall hl2 hb2 hq2 hP2 hB2 c0 hstop
        go_wp2_with fail
        go_ret
        exact ⟨(by rw [H9.out]; first | done | rfl), fun h => absurd (H9.out.symm.trans h) hze, HP3.out, HB3.out⟩
    · obtain rfl : i = 9 := by omega
      have hltz : ¬ ((9 : Nat) : Int) < 9 := by decide
      go_wp2_with fail
      go_ret
      exact ⟨(by rw [HE.out]; first | done | rfl), fun _ => ⟨HQ.out, HI.out⟩, HP.out, HB.out⟩
set_option maxHeartbeats 8000000 in
theorem each4_2 (F : Nat) (eg : ∀ args w, (callFunc F args).run Try.prog w = .ok (.enter F args) w) (k0 k1 : Value) (n0 g b mb : Nat) (room : Int) (f : List Nd → Int → Zn) (l : List Nd) (p : Nat → Int) (qb : Nat) (P : World → Prop) (w : World) (hP0 : P w) (hPk : ∀ W W', P W → BelL n0 W W' → P W') (hPs : ∀ W j u, P W → P (W.setCell ⟨qb, j, none⟩ u))
    (hq : N4 w qb p) (hin : LIn n0 w g b mb l room) (hn0 : n0 ≤ qb)
    (hf : ∀ i, i < 4 → ∀ W, P W → LIn n0 W g b mb (eachTo f l p i).1 room → (eachTo f l p i).2.2 = 0 → Calls Try.prog F #[.int .i64 (p i), k0, k1] W (LpR (f (eachTo f l p i).1 (p i)) n0 g b mb room W)) :
    Calls Try.prog 85 #[.slice (some ⟨qb, 0, none⟩) 4 4, .func (.func F) #[] #[k0, k1]] w fun e w' => e = .returned (.int .i64 (eachTo f l p 4).2.2) ∧ ((eachTo f l p 4).2.2 = 0 → N4 w' qb (eachTo f l p 4).2.1 ∧ LIn n0 w' g b mb (eachTo f l p 4).1 room) ∧ P w' ∧ Below n0 w w' := by
  have HPK := Lib.hid hPk
  have HPS := Lib.hid hPs
  have HF := Lib.hid hf
  have HQ := Lib.hid hq
  have HI := Lib.hid hin
  have HP := Lib.hid hP0
  clear hPk hPs hf hq hin hP0
  go_enter Try.func85, Try.ntmps85
  go_wp2_with fail
  go_loopw [10] (fun u wr => ∃ i : Nat, i ≤ 4 ∧ u = .int .i64 i ∧ Hid (P wr) ∧ Hid (N4 wr qb (eachTo f l p i).2.1) ∧ Hid ((eachTo f l p i).2.2 = 0) ∧ Hid (LIn n0 wr g b mb (eachTo f l p i).1 room) ∧ Hid (Below n0 w wr)) (fun u _ => 4 - (intOf u).toNat)
  case atStart => exact ⟨0, by omega, rfl, HP.out, HQ.out, rfl, HI.out, Below.refl _ _⟩
  case round =>
    obtain ⟨i, hi, rfl, HP, HQ, HE, HI, HB⟩ := hrel
    by_cases hlt : i < 4
    · have hltz : (i : Int) < 4 := by omega
      have hpi : ∀ t, t ≤ 4 → ∀ s, t ≤ s → (eachTo f l p t).2.1 s = p s := fun t => by
        induction t with
        | zero => exact fun _ _ _ => rfl
        | succ t ih =>
          intro ht s hs
          unfold eachTo
          split
          · show (if s = t then _ else _) = _
            rw [if_neg (by omega)]
            exact ih (by omega) s (by omega)
          · exact ih (by omega) s (by omega)
      have c0 := HQ.out.c (p := i) (by omega)
      rw [hpi i (by omega) i (Nat.le_refl _)] at c0
      have hstep : eachTo f l p (i + 1) = ((f (eachTo f l p i).1 (p i)).1, fun t => if t = i then (f (eachTo f l p i).1 (p i)).2.1 else (eachTo f l p i).2.1 t, (f (eachTo f l p i).1 (p i)).2.2) := by
        show (if (eachTo f l p i).2.2 = 0 then _ else _) = _
        rw [if_pos HE.out]
      have hcall := HF.out i hlt wr HP.out HI.out HE.out
      obtain ⟨⟨zl, zn, ze⟩, hz⟩ : ∃ z, z = f (eachTo f l p i).1 (p i) := ⟨_, rfl⟩
      rw [← hz] at hcall hstep
      have HST := Lib.hid hstep
      generalize hpp : p i = pi at *
      clear hpi hstep hz HI
      go_wp2_with fail
      refine hcall.mono ?_
      rintro e w2 ⟨rfl, hl2, hb2⟩
      dsimp only at hl2
      have hq2 := HQ.out.kp hb2.kp
      have hP2 := HPK.out _ _ HP.out hb2
      have c1 := hq2.c (p := i) hlt
      have f1 := hq2.f i
      have hB2 := HB.out.trans hb2.bel
      have HQ3 := Lib.hid (hq2.set (p := i) hlt zn)
      have HP3 := Lib.hid (HPS.out _ i (.int .i64 zn) hP2)
      have HB3 := Lib.hid (hB2.setCell (p := ⟨qb, i, none⟩) hn0 (.int .i64 zn))
      by_cases hze : ze = 0
      · subst hze
        have HI3 := Lib.hid ((hl2 rfl).set hq2 ⟨.inl (by decide), by decide⟩ i (.int .i64 zn))
        clear hcall hl2 hb2 hq2 hP2 hB2 c0
        go_wp2_with fail
        go_roundw
        case measure => simp [intOf]; omega
        case rel => exact ⟨i + 1, by omega, by go_num, HP3.out, by rw [HST.out]; exact HQ3.out, by rw [HST.out]; rfl, by rw [HST.out]; exact HI3.out, HB3.out⟩
      · have hstop : ∀ d, (eachTo f l p (i + 1 + d)).2.2 = ze := fun d => by
          induction d with
          | zero => rw [Nat.add_zero, HST.out]
          | succ d ih =>
            show (if (eachTo f l p (i + 1 + d)).2.2 = 0 then _ else eachTo f l p (i + 1 + d)).2.2 = _
            rw [ih, if_neg hze]
            exact ih
        have h9 := hstop (4 - (i + 1))
        rw [show i + 1 + (4 - (i + 1)) = 4 by omega] at h9
        have hzb : (ze == 0) = false := beq_eq_false_iff_ne.2 hze
        have H9 := Lib.hid h9
        clear h9
        clear hcall hl2 hb2 hq2 hP2 hB2 c0 hstop
        go_wp2_with fail
        go_ret
        exact ⟨(by rw [H9.out]; first | done | rfl), fun h => absurd (H9.out.symm.trans h) hze, HP3.out, HB3.out⟩
    · obtain rfl : i = 4 := by omega
      have hltz : ¬ ((4 : Nat) : Int) < 4 := by decide
      go_wp2_with fail
      go_ret
      exact ⟨(by rw [HE.out]; first | done | rfl), fun _ => ⟨HQ.out, HI.out⟩, HP.out, HB.out⟩
set_option maxHeartbeats 8000000 in
theorem each4_3 (F : Nat) (eg : ∀ args w, (callFunc F args).run Try.prog w = .ok (.enter F args) w) (k0 k1 k2 : Value) (n0 g b mb : Nat) (room : Int) (f : List Nd → Int → Zn) (l : List Nd) (p : Nat → Int) (qb : Nat) (P : World → Prop) (w : World) (hP0 : P w) (hPk : ∀ W W', P W → BelL n0 W W' → P W') (hPs : ∀ W j u, P W → P (W.setCell ⟨qb, j, none⟩ u))
    (hq : N4 w qb p) (hin : LIn n0 w g b mb l room) (hn0 : n0 ≤ qb)
    (hf : ∀ i, i < 4 → ∀ W, P W → LIn n0 W g b mb (eachTo f l p i).1 room → (eachTo f l p i).2.2 = 0 → Calls Try.prog F #[.int .i64 (p i), k0, k1, k2] W (LpR (f (eachTo f l p i).1 (p i)) n0 g b mb room W)) :
    Calls Try.prog 85 #[.slice (some ⟨qb, 0, none⟩) 4 4, .func (.func F) #[] #[k0, k1, k2]] w fun e w' => e = .returned (.int .i64 (eachTo f l p 4).2.2) ∧ ((eachTo f l p 4).2.2 = 0 → N4 w' qb (eachTo f l p 4).2.1 ∧ LIn n0 w' g b mb (eachTo f l p 4).1 room) ∧ P w' ∧ Below n0 w w' := by
  have HPK := Lib.hid hPk
  have HPS := Lib.hid hPs
  have HF := Lib.hid hf
  have HQ := Lib.hid hq
  have HI := Lib.hid hin
  have HP := Lib.hid hP0
  clear hPk hPs hf hq hin hP0
  go_enter Try.func85, Try.ntmps85
  go_wp2_with fail
  go_loopw [10] (fun u wr => ∃ i : Nat, i ≤ 4 ∧ u = .int .i64 i ∧ Hid (P wr) ∧ Hid (N4 wr qb (eachTo f l p i).2.1) ∧ Hid ((eachTo f l p i).2.2 = 0) ∧ Hid (LIn n0 wr g b mb (eachTo f l p i).1 room) ∧ Hid (Below n0 w wr)) (fun u _ => 4 - (intOf u).toNat)
  case atStart => exact ⟨0, by omega, rfl, HP.out, HQ.out, rfl, HI.out, Below.refl _ _⟩
  case round =>
    obtain ⟨i, hi, rfl, HP, HQ, HE, HI, HB⟩ := hrel
    by_cases hlt : i < 4
    · have hltz : (i : Int) < 4 := by omega
      have hpi : ∀ t, t ≤ 4 → ∀ s, t ≤ s → (eachTo f l p t).2.1 s = p s := fun t => by
        induction t with
        | zero => exact fun _ _ _ => rfl
        | succ t ih =>
          intro ht s hs
          unfold eachTo
          split
          · show (if s = t then _ else _) = _
            rw [if_neg (by omega)]
            exact ih (by omega) s (by omega)
          · exact ih (by omega) s (by omega)
      have c0 := HQ.out.c (p := i) (by omega)
      rw [hpi i (by omega) i (Nat.le_refl _)] at c0
      have hstep : eachTo f l p (i + 1) = ((f (eachTo f l p i).1 (p i)).1, fun t => if t = i then (f (eachTo f l p i).1 (p i)).2.1 else (eachTo f l p i).2.1 t, (f (eachTo f l p i).1 (p i)).2.2) := by
        show (if (eachTo f l p i).2.2 = 0 then _ else _) = _
        rw [if_pos HE.out]
      have hcall := HF.out i hlt wr HP.out HI.out HE.out
      obtain ⟨⟨zl, zn, ze⟩, hz⟩ : ∃ z, z = f (eachTo f l p i).1 (p i) := ⟨_, rfl⟩
      rw [← hz] at hcall hstep
      have HST := Lib.hid hstep
      generalize hpp : p i = pi at *
      clear hpi hstep hz HI
      go_wp2_with fail
      refine hcall.mono ?_
      rintro e w2 ⟨rfl, hl2, hb2⟩
      dsimp only at hl2
      have hq2 := HQ.out.kp hb2.kp
      have hP2 := HPK.out _ _ HP.out hb2
      have c1 := hq2.c (p := i) hlt
      have f1 := hq2.f i
      have hB2 := HB.out.trans hb2.bel
      have HQ3 := Lib.hid (hq2.set (p := i) hlt zn)
      have HP3 := Lib.hid (HPS.out _ i (.int .i64 zn) hP2)
      have HB3 := Lib.hid (hB2.setCell (p := ⟨qb, i, none⟩) hn0 (.int .i64 zn))
      by_cases hze : ze = 0
      · subst hze
        have HI3 := Lib.hid ((hl2 rfl).set hq2 ⟨.inl (by decide), by decide⟩ i (.int .i64 zn))
        clear hcall hl2 hb2 hq2 hP2 hB2 c0
        go_wp2_with fail
        go_roundw
        case measure => simp [intOf]; omega
        case rel => exact ⟨i + 1, by omega, by go_num, HP3.out, by rw [HST.out]; exact HQ3.out, by rw [HST.out]; rfl, by rw [HST.out]; exact HI3.out, HB3.out⟩
      · have hstop : ∀ d, (eachTo f l p (i + 1 + d)).2.2 = ze := fun d => by
          induction d with
          | zero => rw [Nat.add_zero, HST.out]
          | succ d ih =>
            show (if (eachTo f l p (i + 1 + d)).2.2 = 0 then _ else eachTo f l p (i + 1 + d)).2.2 = _
            rw [ih, if_neg hze]
            exact ih
        have h9 := hstop (4 - (i + 1))
        rw [show i + 1 + (4 - (i + 1)) = 4 by omega] at h9
        have hzb : (ze == 0) = false := beq_eq_false_iff_ne.2 hze
        have H9 := Lib.hid h9
        clear h9
        clear hcall hl2 hb2 hq2 hP2 hB2 c0 hstop
        go_wp2_with fail
        go_ret
        exact ⟨(by rw [H9.out]; first | done | rfl), fun h => absurd (H9.out.symm.trans h) hze, HP3.out, HB3.out⟩
    · obtain rfl : i = 4 := by omega
      have hltz : ¬ ((4 : Nat) : Int) < 4 := by decide
      go_wp2_with fail
      go_ret
      exact ⟨(by rw [HE.out]; first | done | rfl), fun _ => ⟨HQ.out, HI.out⟩, HP.out, HB.out⟩
end Go.Proofs.Ytklccoodfhejbaa
namespace Go.Proofs.Ytklccoodfhejbaa
set_option maxRecDepth 100000
set_option linter.unusedVariables false
set_option linter.unusedSimpArgs false
open Go.RowKit Go.Sort

set_option maxHeartbeats 4000000 in
theorem anew1_any (n0 g b mb mx jb lb e jn : Nat) (room n : Int) (z : Zn) (W : World) (hm : ML W mx g mb) (hj : W.cell? ⟨jb, 0, none⟩ = some (.int .i64 (jn : Int))) (hl : W.cell? ⟨lb, 0, none⟩ = some (.int .i64 ((e : Int) + 3))) (he : e ≤ 40) (hjn : jn ≤ 42)
    (hcall : Calls Try.prog 42 #[makerL g mb, .int .i64 n, .int .i64 ((min jn e : Nat) : Int)] W (LpR z n0 g b mb room W)) :
    Calls Try.prog 84 #[.int .i64 n, .pointer (some ⟨mx, 0, none⟩), .pointer (some ⟨jb, 0, none⟩), .pointer (some ⟨lb, 0, none⟩)] W (LpR z n0 g b mb room W) := by
  have m0 := hm.c0
  have m1 := hm.c1
  obtain ⟨lv, hlv⟩ : ∃ lv : Int, lv = (e : Int) + 3 := ⟨_, rfl⟩
  rw [← hlv] at hl
  have hw1 : IntKind.i64.wrap (lv - 1) = lv - 1 := by rw [IntKind.wrap_i64]; omega
  have hw2 : IntKind.i64.wrap (lv - 1 - 2) = (e : Int) := by rw [IntKind.wrap_i64]; omega
  have hmin : ((min jn e : Nat) : Int) = min (jn : Int) (e : Int) := by omega
  rw [hmin] at hcall
  obtain ⟨zl, zn, ze⟩ := z
  clear hm hmin hlv he hjn
  go_enter Try.func84, Try.ntmps84
  go_wp2_with fail
  refine hcall.mono ?_
  rintro r w2 ⟨rfl, hl2, hb2⟩
  have HL := Lib.hid hl2
  have HB := Lib.hid hb2
  clear hl2 hb2 hcall m0 m1 hj hl hw1 hw2
  go_wp2_with fail
  go_ret2
  exact ⟨rfl, HL.out, HB.out⟩
/-! the second closure -/
set_option maxHeartbeats 8000000 in
theorem anew2_any (n0 g b mb mx qb : Nat) (room : Int) (l : List Nd) (q : Nat → Int) (i : Nat) (hi : i < 4) (w : World) (hin : LIn n0 w g b mb l room) (hm : ML w mx g mb) (hq : N9 w qb q) :
    Calls Try.prog 86 #[.int .i64 (cornP i), .pointer (some ⟨mx, 0, none⟩), .pointer (some ⟨qb, 0, none⟩)] w (LpR (put6 l room (overK q (cornP i))) n0 g b mb room w) := by
  have HI := Lib.hid hin
  have HM := Lib.hid hm
  have HQ := Lib.hid hq
  clear hin hm hq
  rcases (by omega : i = 0 ∨ i = 1 ∨ i = 2 ∨ i = 3) with rfl | rfl | rfl | rfl
  · obtain ⟨⟨m, p, ee⟩, hz⟩ : ∃ z, z = put6 l room (q 0, q 1, q 3, q 4) := ⟨_, rfl⟩
    have hov : overK q (cornP 0) = (q 0, q 1, q 3, q 4) := rfl
    rw [hov, ← hz]
    have hgr := put_grows7 HI.out.right (q 0, q 1, q 3, q 4)
    have hrr := put_right HI.out.right (q 0, q 1, q 3, q 4)
    have hin := fun W hW => intern_anyK n0 g b l room (q 0, q 1, q 3, q 4) W hW HI.out.right
    rw [← hz] at hgr hrr hin
    unfold kidsV at hin
    have HIN := Lib.hid hin
    have HG := Lib.hid (And.intro hgr hrr)
    clear hin hgr hrr hz hov
    have hc : cornP 0 = 0 := rfl
    rw [hc]
    clear hc
    go_enter Try.func86, Try.ntmps86
    go_wp2_with fail
    have hC0 : BelK n0 b w w.drew := .of (below_drew w) HI.out.ix.hB
    have hIx0 := HI.out.ix.below (below_drew w)
    refine region_calm_to (fun W => BelK n0 b w W) (fun (a0 a9 : Act) (w9 : World) => a9 = ((((((((((((((((((((((((a0.put (some 6) (.pointer (some ⟨mx, 0, none⟩))).put (some 7) (.pointer (some ⟨mx, 0, none⟩))).put (some 8) (.pointer (some ⟨g, 0, none⟩))).put (some 9) (.int .i64 0)).put (some 10) (.pointer (some ⟨qb, 0, none⟩))).put (some 11) (.int .i64 (q 0))).put (some 12) (.int .i64 0)).put (some 13) (.int .i64 1)).put (some 14) (.pointer (some ⟨qb, 1, none⟩))).put (some 15) (.int .i64 (q 1))).put (some 16) (.int .i64 0)).put (some 17) (.int .i64 3)).put (some 18) (.pointer (some ⟨qb, 3, none⟩))).put (some 19) (.int .i64 (q 3))).put (some 20) (.int .i64 0)).put (some 21) (.int .i64 4)).put (some 22) (.pointer (some ⟨qb, 4, none⟩))).put (some 23) (.int .i64 (q 4))).put (some 24) (.agg #[.int .i64 (q 0), .int .i64 (q 1), .int .i64 (q 3), .int .i64 (q 4)])).put (some 25) (.tuple #[.int .i64 p, .int .i64 ee])).put (some 26) (.int .i64 p)).put (some 27) (.int .i64 ee)).put (some 4) (.int .i64 p)).put (some 5) (.int .i64 ee)) ∧ Ix n0 w9 g b m room ∧ BelK n0 b w w9) (.calm 0 (.calm 1 (.calm 2 (.calm 3 (.calm 4 (.calm 5 (.calm 6 (.calm 7 (.calm 8 (.calm 9 (.calm 10 (.calm 11 (.calm 12 (.calm 13 (.calm 14 (.calm 15 (.calm 16 (.calm 17 (.calm 18 (.only 19 (.calm 20 (.calm 21 (.calm 22 (.calm 23 .done)))))))))))))))))))))))) (by kernel_rfl) (by kernel_rfl) (by kernel_rfl) (by rfl) hC0 ?_ ?_
    · skip
      refine ⟨_, _, (.pointer (some ⟨mx, 0, none⟩)), rfl, rfl, ⟨rfl, fun W hW => by first | exact ⟨rfl, rfl⟩ | (simp only [Act.eval, execOp]; go_simp; try exact ⟨rfl, rfl⟩)⟩, ?_⟩
      simp only [Act.put, List.getElem_toArray, List.getElem_cons_zero, List.getElem_cons_succ, List.setIfInBounds_toArray, List.set_cons_succ, List.set_cons_zero]
      refine ⟨_, _, (.pointer (some ⟨mx, 0, none⟩)), rfl, rfl, ⟨rfl, fun W hW => by first | exact ⟨rfl, rfl⟩ | (simp only [Act.eval, execOp]; go_simp; try exact ⟨rfl, rfl⟩)⟩, ?_⟩
      simp only [Act.put, List.getElem_toArray, List.getElem_cons_zero, List.getElem_cons_succ, List.setIfInBounds_toArray, List.set_cons_succ, List.set_cons_zero]
      refine ⟨_, _, (.pointer (some ⟨g, 0, none⟩)), rfl, rfl, ⟨rfl, fun W hW => by have q0 := (HM.out.kp hW.kp).c0; simp only [execOp]; go_simp; done⟩, ?_⟩
      simp only [Act.put, List.getElem_toArray, List.getElem_cons_zero, List.getElem_cons_succ, List.setIfInBounds_toArray, List.set_cons_succ, List.set_cons_zero]
      refine ⟨_, _, (.int .i64 0), rfl, rfl, ⟨rfl, fun W hW => by first | exact ⟨rfl, rfl⟩ | (simp only [Act.eval, execOp]; go_simp; try exact ⟨rfl, rfl⟩)⟩, ?_⟩
      simp only [Act.put, List.getElem_toArray, List.getElem_cons_zero, List.getElem_cons_succ, List.setIfInBounds_toArray, List.set_cons_succ, List.set_cons_zero]
      refine ⟨_, _, (.pointer (some ⟨qb, 0, none⟩)), rfl, rfl, ⟨rfl, fun W hW => by first | exact ⟨rfl, rfl⟩ | (simp only [Act.eval, execOp]; go_simp; try exact ⟨rfl, rfl⟩)⟩, ?_⟩
      simp only [Act.put, List.getElem_toArray, List.getElem_cons_zero, List.getElem_cons_succ, List.setIfInBounds_toArray, List.set_cons_succ, List.set_cons_zero]
      refine ⟨_, _, (.int .i64 (q 0)), rfl, rfl, ⟨rfl, fun W hW => by have q0 := (HQ.out.kp hW.kp).c (p := 0) (by decide); simp only [execOp]; go_simp; done⟩, ?_⟩
      simp only [Act.put, List.getElem_toArray, List.getElem_cons_zero, List.getElem_cons_succ, List.setIfInBounds_toArray, List.set_cons_succ, List.set_cons_zero]
      refine ⟨_, _, (.int .i64 0), rfl, rfl, ⟨rfl, fun W hW => by first | exact ⟨rfl, rfl⟩ | (simp only [Act.eval, execOp]; go_simp; try exact ⟨rfl, rfl⟩)⟩, ?_⟩
      simp only [Act.put, List.getElem_toArray, List.getElem_cons_zero, List.getElem_cons_succ, List.setIfInBounds_toArray, List.set_cons_succ, List.set_cons_zero]
      refine ⟨_, _, (.int .i64 1), rfl, rfl, ⟨rfl, fun W hW => by first | exact ⟨rfl, rfl⟩ | (simp only [Act.eval, execOp]; go_simp; try exact ⟨rfl, rfl⟩)⟩, ?_⟩
      simp only [Act.put, List.getElem_toArray, List.getElem_cons_zero, List.getElem_cons_succ, List.setIfInBounds_toArray, List.set_cons_succ, List.set_cons_zero]
      refine ⟨_, _, (.pointer (some ⟨qb, 1, none⟩)), rfl, rfl, ⟨rfl, fun W hW => by first | exact ⟨rfl, rfl⟩ | (simp only [Act.eval, execOp]; go_simp; try exact ⟨rfl, rfl⟩)⟩, ?_⟩
      simp only [Act.put, List.getElem_toArray, List.getElem_cons_zero, List.getElem_cons_succ, List.setIfInBounds_toArray, List.set_cons_succ, List.set_cons_zero]
      refine ⟨_, _, (.int .i64 (q 1)), rfl, rfl, ⟨rfl, fun W hW => by have q0 := (HQ.out.kp hW.kp).c (p := 1) (by decide); simp only [execOp]; go_simp; done⟩, ?_⟩
      simp only [Act.put, List.getElem_toArray, List.getElem_cons_zero, List.getElem_cons_succ, List.setIfInBounds_toArray, List.set_cons_succ, List.set_cons_zero]
      refine ⟨_, _, (.int .i64 0), rfl, rfl, ⟨rfl, fun W hW => by first | exact ⟨rfl, rfl⟩ | (simp only [Act.eval, execOp]; go_simp; try exact ⟨rfl, rfl⟩)⟩, ?_⟩
      simp only [Act.put, List.getElem_toArray, List.getElem_cons_zero, List.getElem_cons_succ, List.setIfInBounds_toArray, List.set_cons_succ, List.set_cons_zero]
      refine ⟨_, _, (.int .i64 3), rfl, rfl, ⟨rfl, fun W hW => by first | exact ⟨rfl, rfl⟩ | (simp only [Act.eval, execOp]; go_simp; try exact ⟨rfl, rfl⟩)⟩, ?_⟩
      simp only [Act.put, List.getElem_toArray, List.getElem_cons_zero, List.getElem_cons_succ, List.setIfInBounds_toArray, List.set_cons_succ, List.set_cons_zero]
      refine ⟨_, _, (.pointer (some ⟨qb, 3, none⟩)), rfl, rfl, ⟨rfl, fun W hW => by first | exact ⟨rfl, rfl⟩ | (simp only [Act.eval, execOp]; go_simp; try exact ⟨rfl, rfl⟩)⟩, ?_⟩
      simp only [Act.put, List.getElem_toArray, List.getElem_cons_zero, List.getElem_cons_succ, List.setIfInBounds_toArray, List.set_cons_succ, List.set_cons_zero]
      refine ⟨_, _, (.int .i64 (q 3)), rfl, rfl, ⟨rfl, fun W hW => by have q0 := (HQ.out.kp hW.kp).c (p := 3) (by decide); simp only [execOp]; go_simp; done⟩, ?_⟩
      simp only [Act.put, List.getElem_toArray, List.getElem_cons_zero, List.getElem_cons_succ, List.setIfInBounds_toArray, List.set_cons_succ, List.set_cons_zero]
      refine ⟨_, _, (.int .i64 0), rfl, rfl, ⟨rfl, fun W hW => by first | exact ⟨rfl, rfl⟩ | (simp only [Act.eval, execOp]; go_simp; try exact ⟨rfl, rfl⟩)⟩, ?_⟩
      simp only [Act.put, List.getElem_toArray, List.getElem_cons_zero, List.getElem_cons_succ, List.setIfInBounds_toArray, List.set_cons_succ, List.set_cons_zero]
      refine ⟨_, _, (.int .i64 4), rfl, rfl, ⟨rfl, fun W hW => by first | exact ⟨rfl, rfl⟩ | (simp only [Act.eval, execOp]; go_simp; try exact ⟨rfl, rfl⟩)⟩, ?_⟩
      simp only [Act.put, List.getElem_toArray, List.getElem_cons_zero, List.getElem_cons_succ, List.setIfInBounds_toArray, List.set_cons_succ, List.set_cons_zero]
      refine ⟨_, _, (.pointer (some ⟨qb, 4, none⟩)), rfl, rfl, ⟨rfl, fun W hW => by first | exact ⟨rfl, rfl⟩ | (simp only [Act.eval, execOp]; go_simp; try exact ⟨rfl, rfl⟩)⟩, ?_⟩
      simp only [Act.put, List.getElem_toArray, List.getElem_cons_zero, List.getElem_cons_succ, List.setIfInBounds_toArray, List.set_cons_succ, List.set_cons_zero]
      refine ⟨_, _, (.int .i64 (q 4)), rfl, rfl, ⟨rfl, fun W hW => by have q0 := (HQ.out.kp hW.kp).c (p := 4) (by decide); simp only [execOp]; go_simp; done⟩, ?_⟩
      simp only [Act.put, List.getElem_toArray, List.getElem_cons_zero, List.getElem_cons_succ, List.setIfInBounds_toArray, List.set_cons_succ, List.set_cons_zero]
      refine ⟨_, _, (.agg #[.int .i64 (q 0), .int .i64 (q 1), .int .i64 (q 3), .int .i64 (q 4)]), rfl, rfl, ⟨rfl, fun W hW => by first | exact ⟨rfl, rfl⟩ | (simp only [Act.eval, execOp]; go_simp; try exact ⟨rfl, rfl⟩)⟩, ?_⟩
      simp only [Act.put, List.getElem_toArray, List.getElem_cons_zero, List.getElem_cons_succ, List.setIfInBounds_toArray, List.set_cons_succ, List.set_cons_zero]
      refine ⟨_, rfl, ?_⟩
      go_wp2_with fail
      refine (HIN.out w.drew hIx0).mono ?_
      rintro r w9 ⟨rfl, hi9, hb9⟩
      have hC := hC0.trans hb9
      go_wp2_with fail
      refine ⟨rfl, hC, ?_⟩
      refine ⟨_, _, (.int .i64 p), rfl, rfl, ⟨rfl, fun W hW => by first | exact ⟨rfl, rfl⟩ | (simp only [Act.eval, execOp]; go_simp; try exact ⟨rfl, rfl⟩)⟩, ?_⟩
      simp only [Act.put, List.getElem_toArray, List.getElem_cons_zero, List.getElem_cons_succ, List.setIfInBounds_toArray, List.set_cons_succ, List.set_cons_zero]
      refine ⟨_, _, (.int .i64 ee), rfl, rfl, ⟨rfl, fun W hW => by first | exact ⟨rfl, rfl⟩ | (simp only [Act.eval, execOp]; go_simp; try exact ⟨rfl, rfl⟩)⟩, ?_⟩
      simp only [Act.put, List.getElem_toArray, List.getElem_cons_zero, List.getElem_cons_succ, List.setIfInBounds_toArray, List.set_cons_succ, List.set_cons_zero]
      refine ⟨_, _, (.int .i64 p), rfl, rfl, ⟨rfl, fun W hW => by first | exact ⟨rfl, rfl⟩ | (simp only [Act.eval, execOp]; go_simp; try exact ⟨rfl, rfl⟩)⟩, ?_⟩
      simp only [Act.put, List.getElem_toArray, List.getElem_cons_zero, List.getElem_cons_succ, List.setIfInBounds_toArray, List.set_cons_succ, List.set_cons_zero]
      refine ⟨_, _, (.int .i64 ee), rfl, rfl, ⟨rfl, fun W hW => by first | exact ⟨rfl, rfl⟩ | (simp only [Act.eval, execOp]; go_simp; try exact ⟨rfl, rfl⟩)⟩, ?_⟩
      simp only [Act.put, List.getElem_toArray, List.getElem_cons_zero, List.getElem_cons_succ, List.setIfInBounds_toArray, List.set_cons_succ, List.set_cons_zero]
      refine ⟨?_, hi9, hC⟩
      first | rfl | simp only [Act.put, List.getElem_toArray, List.getElem_cons_zero, List.getElem_cons_succ, List.setIfInBounds_toArray, List.set_cons_succ, List.set_cons_zero]
    rintro a9 w9 ⟨rfl, hi9, hb9⟩
    simp only [Act.put, List.setIfInBounds_toArray, List.set_cons_succ, List.set_cons_zero]
    have HL := Lib.hid (HI.out.base hb9 hi9 HG.out.2 HG.out.1)
    have HB := Lib.hid hb9.l
    clear hi9 hb9 hC0 hIx0
    go_wp2_with fail
    go_ret2
    exact ⟨rfl, fun _ => HL.out, HB.out⟩
  · obtain ⟨⟨m, p, ee⟩, hz⟩ : ∃ z, z = put6 l room (q 1, q 2, q 4, q 5) := ⟨_, rfl⟩
    have hov : overK q (cornP 1) = (q 1, q 2, q 4, q 5) := rfl
    rw [hov, ← hz]
    have hgr := put_grows7 HI.out.right (q 1, q 2, q 4, q 5)
    have hrr := put_right HI.out.right (q 1, q 2, q 4, q 5)
    have hin := fun W hW => intern_anyK n0 g b l room (q 1, q 2, q 4, q 5) W hW HI.out.right
    rw [← hz] at hgr hrr hin
    unfold kidsV at hin
    have HIN := Lib.hid hin
    have HG := Lib.hid (And.intro hgr hrr)
    clear hin hgr hrr hz hov
    have hc : cornP 1 = 1 := rfl
    rw [hc]
    clear hc
    go_enter Try.func86, Try.ntmps86
    go_wp2_with fail
    have hC0 : BelK n0 b w w.drew := .of (below_drew w) HI.out.ix.hB
    have hIx0 := HI.out.ix.below (below_drew w)
    refine region_calm_to (fun W => BelK n0 b w W) (fun (a0 a9 : Act) (w9 : World) => a9 = ((((((((((((((((((((((((a0.put (some 6) (.pointer (some ⟨mx, 0, none⟩))).put (some 7) (.pointer (some ⟨mx, 0, none⟩))).put (some 8) (.pointer (some ⟨g, 0, none⟩))).put (some 9) (.int .i64 1)).put (some 10) (.pointer (some ⟨qb, 1, none⟩))).put (some 11) (.int .i64 (q 1))).put (some 12) (.int .i64 1)).put (some 13) (.int .i64 2)).put (some 14) (.pointer (some ⟨qb, 2, none⟩))).put (some 15) (.int .i64 (q 2))).put (some 16) (.int .i64 1)).put (some 17) (.int .i64 4)).put (some 18) (.pointer (some ⟨qb, 4, none⟩))).put (some 19) (.int .i64 (q 4))).put (some 20) (.int .i64 1)).put (some 21) (.int .i64 5)).put (some 22) (.pointer (some ⟨qb, 5, none⟩))).put (some 23) (.int .i64 (q 5))).put (some 24) (.agg #[.int .i64 (q 1), .int .i64 (q 2), .int .i64 (q 4), .int .i64 (q 5)])).put (some 25) (.tuple #[.int .i64 p, .int .i64 ee])).put (some 26) (.int .i64 p)).put (some 27) (.int .i64 ee)).put (some 4) (.int .i64 p)).put (some 5) (.int .i64 ee)) ∧ Ix n0 w9 g b m room ∧ BelK n0 b w w9) (.calm 0 (.calm 1 (.calm 2 (.calm 3 (.calm 4 (.calm 5 (.calm 6 (.calm 7 (.calm 8 (.calm 9 (.calm 10 (.calm 11 (.calm 12 (.calm 13 (.calm 14 (.calm 15 (.calm 16 (.calm 17 (.calm 18 (.only 19 (.calm 20 (.calm 21 (.calm 22 (.calm 23 .done)))))))))))))))))))))))) (by kernel_rfl) (by kernel_rfl) (by kernel_rfl) (by rfl) hC0 ?_ ?_
    · skip
      refine ⟨_, _, (.pointer (some ⟨mx, 0, none⟩)), rfl, rfl, ⟨rfl, fun W hW => by first | exact ⟨rfl, rfl⟩ | (simp only [Act.eval, execOp]; go_simp; try exact ⟨rfl, rfl⟩)⟩, ?_⟩
      simp only [Act.put, List.getElem_toArray, List.getElem_cons_zero, List.getElem_cons_succ, List.setIfInBounds_toArray, List.set_cons_succ, List.set_cons_zero]
      refine ⟨_, _, (.pointer (some ⟨mx, 0, none⟩)), rfl, rfl, ⟨rfl, fun W hW => by first | exact ⟨rfl, rfl⟩ | (simp only [Act.eval, execOp]; go_simp; try exact ⟨rfl, rfl⟩)⟩, ?_⟩
      simp only [Act.put, List.getElem_toArray, List.getElem_cons_zero, List.getElem_cons_succ, List.setIfInBounds_toArray, List.set_cons_succ, List.set_cons_zero]
      refine ⟨_, _, (.pointer (some ⟨g, 0, none⟩)), rfl, rfl, ⟨rfl, fun W hW => by have q0 := (HM.out.kp hW.kp).c0; simp only [execOp]; go_simp; done⟩, ?_⟩
      simp only [Act.put, List.getElem_toArray, List.getElem_cons_zero, List.getElem_cons_succ, List.setIfInBounds_toArray, List.set_cons_succ, List.set_cons_zero]
      refine ⟨_, _, (.int .i64 1), rfl, rfl, ⟨rfl, fun W hW => by first | exact ⟨rfl, rfl⟩ | (simp only [Act.eval, execOp]; go_simp; try exact ⟨rfl, rfl⟩)⟩, ?_⟩
      simp only [Act.put, List.getElem_toArray, List.getElem_cons_zero, List.getElem_cons_succ, List.setIfInBounds_toArray, List.set_cons_succ, List.set_cons_zero]
      refine ⟨_, _, (.pointer (some ⟨qb, 1, none⟩)), rfl, rfl, ⟨rfl, fun W hW => by first | exact ⟨rfl, rfl⟩ | (simp only [Act.eval, execOp]; go_simp; try exact ⟨rfl, rfl⟩)⟩, ?_⟩
      simp only [Act.put, List.getElem_toArray, List.getElem_cons_zero, List.getElem_cons_succ, List.setIfInBounds_toArray, List.set_cons_succ, List.set_cons_zero]
      refine ⟨_, _, (.int .i64 (q 1)), rfl, rfl, ⟨rfl, fun W hW => by have q0 := (HQ.out.kp hW.kp).c (p := 1) (by decide); simp only [execOp]; go_simp; done⟩, ?_⟩
      simp only [Act.put, List.getElem_toArray, List.getElem_cons_zero, List.getElem_cons_succ, List.setIfInBounds_toArray, List.set_cons_succ, List.set_cons_zero]
      refine ⟨_, _, (.int .i64 1), rfl, rfl, ⟨rfl, fun W hW => by first | exact ⟨rfl, rfl⟩ | (simp only [Act.eval, execOp]; go_simp; try exact ⟨rfl, rfl⟩)⟩, ?_⟩
      simp only [Act.put, List.getElem_toArray, List.getElem_cons_zero, List.getElem_cons_succ, List.setIfInBounds_toArray, List.set_cons_succ, List.set_cons_zero]
      refine ⟨_, _, (.int .i64 2), rfl, rfl, ⟨rfl, fun W hW => by first | exact ⟨rfl, rfl⟩ | (simp only [Act.eval, execOp]; go_simp; try exact ⟨rfl, rfl⟩)⟩, ?_⟩
      simp only [Act.put, List.getElem_toArray, List.getElem_cons_zero, List.getElem_cons_succ, List.setIfInBounds_toArray, List.set_cons_succ, List.set_cons_zero]
      refine ⟨_, _, (.pointer (some ⟨qb, 2, none⟩)), rfl, rfl, ⟨rfl, fun W hW => by first | exact ⟨rfl, rfl⟩ | (simp only [Act.eval, execOp]; go_simp; try exact ⟨rfl, rfl⟩)⟩, ?_⟩
      simp only [Act.put, List.getElem_toArray, List.getElem_cons_zero, List.getElem_cons_succ, List.setIfInBounds_toArray, List.set_cons_succ, List.set_cons_zero]
      refine ⟨_, _, (.int .i64 (q 2)), rfl, rfl, ⟨rfl, fun W hW => by have q0 := (HQ.out.kp hW.kp).c (p := 2) (by decide); simp only [execOp]; go_simp; done⟩, ?_⟩
      simp only [Act.put, List.getElem_toArray, List.getElem_cons_zero, List.getElem_cons_succ, List.setIfInBounds_toArray, List.set_cons_succ, List.set_cons_zero]
      refine ⟨_, _, (.int .i64 1), rfl, rfl, ⟨rfl, fun W hW => by first | exact ⟨rfl, rfl⟩ | (simp only [Act.eval, execOp]; go_simp; try exact ⟨rfl, rfl⟩)⟩, ?_⟩
      simp only [Act.put, List.getElem_toArray, List.getElem_cons_zero, List.getElem_cons_succ, List.setIfInBounds_toArray, List.set_cons_succ, List.set_cons_zero]
      refine ⟨_, _, (.int .i64 4), rfl, rfl, ⟨rfl, fun W hW => by first | exact ⟨rfl, rfl⟩ | (simp only [Act.eval, execOp]; go_simp; try exact ⟨rfl, rfl⟩)⟩, ?_⟩
      simp only [Act.put, List.getElem_toArray, List.getElem_cons_zero, List.getElem_cons_succ, List.setIfInBounds_toArray, List.set_cons_succ, List.set_cons_zero]
      refine ⟨_, _, (.pointer (some ⟨qb, 4, none⟩)), rfl, rfl, ⟨rfl, fun W hW => by first | exact ⟨rfl, rfl⟩ | (simp only [Act.eval, execOp]; go_simp; try exact ⟨rfl, rfl⟩)⟩, ?_⟩
      simp only [Act.put, List.getElem_toArray, List.getElem_cons_zero, List.getElem_cons_succ, List.setIfInBounds_toArray, List.set_cons_succ, List.set_cons_zero]
      refine ⟨_, _, (.int .i64 (q 4)), rfl, rfl, ⟨rfl, fun W hW => by have q0 := (HQ.out.kp hW.kp).c (p := 4) (by decide); simp only [execOp]; go_simp; done⟩, ?_⟩
      simp only [Act.put, List.getElem_toArray, List.getElem_cons_zero, List.getElem_cons_succ, List.setIfInBounds_toArray, List.set_cons_succ, List.set_cons_zero]
      refine ⟨_, _, (.int .i64 1), rfl, rfl, ⟨rfl, fun W hW => by first | exact ⟨rfl, rfl⟩ | (simp only [Act.eval, execOp]; go_simp; try exact ⟨rfl, rfl⟩)⟩, ?_⟩
      simp only [Act.put, List.getElem_toArray, List.getElem_cons_zero, List.getElem_cons_succ, List.setIfInBounds_toArray, List.set_cons_succ, List.set_cons_zero]
      refine ⟨_, _, (.int .i64 5), rfl, rfl, ⟨rfl, fun W hW => by first | exact ⟨rfl, rfl⟩ | (simp only [Act.eval, execOp]; go_simp; try exact ⟨rfl, rfl⟩)⟩, ?_⟩
      simp only [Act.put, List.getElem_toArray, List.getElem_cons_zero, List.getElem_cons_succ, List.setIfInBounds_toArray, List.set_cons_succ, List.set_cons_zero]
      refine ⟨_, _, (.pointer (some ⟨qb, 5, none⟩)), rfl, rfl, ⟨rfl, fun W hW => by first | exact ⟨rfl, rfl⟩ | (simp only [Act.eval, execOp]; go_simp; try exact ⟨rfl, rfl⟩)⟩, ?_⟩
      simp only [Act.put, List.getElem_toArray, List.getElem_cons_zero, List.getElem_cons_succ, List.setIfInBounds_toArray, List.set_cons_succ, List.set_cons_zero]
      refine ⟨_, _, (.int .i64 (q 5)), rfl, rfl, ⟨rfl, fun W hW => by have q0 := (HQ.out.kp hW.kp).c (p := 5) (by decide); simp only [execOp]; go_simp; done⟩, ?_⟩
      simp only [Act.put, List.getElem_toArray, List.getElem_cons_zero, List.getElem_cons_succ, List.setIfInBounds_toArray, List.set_cons_succ, List.set_cons_zero]
      refine ⟨_, _, (.agg #[.int .i64 (q 1), .int .i64 (q 2), .int .i64 (q 4), .int .i64 (q 5)]), rfl, rfl, ⟨rfl, fun W hW => by first | exact ⟨rfl, rfl⟩ | (simp only [Act.eval, execOp]; go_simp; try exact ⟨rfl, rfl⟩)⟩, ?_⟩
      simp only [Act.put, List.getElem_toArray, List.getElem_cons_zero, List.getElem_cons_succ, List.setIfInBounds_toArray, List.set_cons_succ, List.set_cons_zero]
      refine ⟨_, rfl, ?_⟩
      go_wp2_with fail
      refine (HIN.out w.drew hIx0).mono ?_
      rintro r w9 ⟨rfl, hi9, hb9⟩
      have hC := hC0.trans hb9
      go_wp2_with fail
      refine ⟨rfl, hC, ?_⟩
      refine ⟨_, _, (.int .i64 p), rfl, rfl, ⟨rfl, fun W hW => by first | exact ⟨rfl, rfl⟩ | (simp only [Act.eval, execOp]; go_simp; try exact ⟨rfl, rfl⟩)⟩, ?_⟩
      simp only [Act.put, List.getElem_toArray, List.getElem_cons_zero, List.getElem_cons_succ, List.setIfInBounds_toArray, List.set_cons_succ, List.set_cons_zero]
      refine ⟨_, _, (.int .i64 ee), rfl, rfl, ⟨rfl, fun W hW => by first | exact ⟨rfl, rfl⟩ | (simp only [Act.eval, execOp]; go_simp; try exact ⟨rfl, rfl⟩)⟩, ?_⟩
      simp only [Act.put, List.getElem_toArray, List.getElem_cons_zero, List.getElem_cons_succ, List.setIfInBounds_toArray, List.set_cons_succ, List.set_cons_zero]
      refine ⟨_, _, (.int .i64 p), rfl, rfl, ⟨rfl, fun W hW => by first | exact ⟨rfl, rfl⟩ | (simp only [Act.eval, execOp]; go_simp; try exact ⟨rfl, rfl⟩)⟩, ?_⟩
      simp only [Act.put, List.getElem_toArray, List.getElem_cons_zero, List.getElem_cons_succ, List.setIfInBounds_toArray, List.set_cons_succ, List.set_cons_zero]
      refine ⟨_, _, (.int .i64 ee), rfl, rfl, ⟨rfl, fun W hW => by first | exact ⟨rfl, rfl⟩ | (simp only [Act.eval, execOp]; go_simp; try exact ⟨rfl, rfl⟩)⟩, ?_⟩
      simp only [Act.put, List.getElem_toArray, List.getElem_cons_zero, List.getElem_cons_succ, List.setIfInBounds_toArray, List.set_cons_succ, List.set_cons_zero]
      refine ⟨?_, hi9, hC⟩
      first | rfl | simp only [Act.put, List.getElem_toArray, List.getElem_cons_zero, List.getElem_cons_succ, List.setIfInBounds_toArray, List.set_cons_succ, List.set_cons_zero]
    rintro a9 w9 ⟨rfl, hi9, hb9⟩
    simp only [Act.put, List.setIfInBounds_toArray, List.set_cons_succ, List.set_cons_zero]
    have HL := Lib.hid (HI.out.base hb9 hi9 HG.out.2 HG.out.1)
    have HB := Lib.hid hb9.l
    clear hi9 hb9 hC0 hIx0
    go_wp2_with fail
    go_ret2
    exact ⟨rfl, fun _ => HL.out, HB.out⟩
  · obtain ⟨⟨m, p, ee⟩, hz⟩ : ∃ z, z = put6 l room (q 3, q 4, q 6, q 7) := ⟨_, rfl⟩
    have hov : overK q (cornP 2) = (q 3, q 4, q 6, q 7) := rfl
    rw [hov, ← hz]
    have hgr := put_grows7 HI.out.right (q 3, q 4, q 6, q 7)
    have hrr := put_right HI.out.right (q 3, q 4, q 6, q 7)
    have hin := fun W hW => intern_anyK n0 g b l room (q 3, q 4, q 6, q 7) W hW HI.out.right
    rw [← hz] at hgr hrr hin
    unfold kidsV at hin
    have HIN := Lib.hid hin
    have HG := Lib.hid (And.intro hgr hrr)
    clear hin hgr hrr hz hov
    have hc : cornP 2 = 3 := rfl
    rw [hc]
    clear hc
    go_enter Try.func86, Try.ntmps86
    go_wp2_with fail
    have hC0 : BelK n0 b w w.drew := .of (below_drew w) HI.out.ix.hB
    have hIx0 := HI.out.ix.below (below_drew w)
    refine region_calm_to (fun W => BelK n0 b w W) (fun (a0 a9 : Act) (w9 : World) => a9 = ((((((((((((((((((((((((a0.put (some 6) (.pointer (some ⟨mx, 0, none⟩))).put (some 7) (.pointer (some ⟨mx, 0, none⟩))).put (some 8) (.pointer (some ⟨g, 0, none⟩))).put (some 9) (.int .i64 3)).put (some 10) (.pointer (some ⟨qb, 3, none⟩))).put (some 11) (.int .i64 (q 3))).put (some 12) (.int .i64 3)).put (some 13) (.int .i64 4)).put (some 14) (.pointer (some ⟨qb, 4, none⟩))).put (some 15) (.int .i64 (q 4))).put (some 16) (.int .i64 3)).put (some 17) (.int .i64 6)).put (some 18) (.pointer (some ⟨qb, 6, none⟩))).put (some 19) (.int .i64 (q 6))).put (some 20) (.int .i64 3)).put (some 21) (.int .i64 7)).put (some 22) (.pointer (some ⟨qb, 7, none⟩))).put (some 23) (.int .i64 (q 7))).put (some 24) (.agg #[.int .i64 (q 3), .int .i64 (q 4), .int .i64 (q 6), .int .i64 (q 7)])).put (some 25) (.tuple #[.int .i64 p, .int .i64 ee])).put (some 26) (.int .i64 p)).put (some 27) (.int .i64 ee)).put (some 4) (.int .i64 p)).put (some 5) (.int .i64 ee)) ∧ Ix n0 w9 g b m room ∧ BelK n0 b w w9) (.calm 0 (.calm 1 (.calm 2 (.calm 3 (.calm 4 (.calm 5 (.calm 6 (.calm 7 (.calm 8 (.calm 9 (.calm 10 (.calm 11 (.calm 12 (.calm 13 (.calm 14 (.calm 15 (.calm 16 (.calm 17 (.calm 18 (.only 19 (.calm 20 (.calm 21 (.calm 22 (.calm 23 .done)))))))))))))))))))))))) (by kernel_rfl) (by kernel_rfl) (by kernel_rfl) (by rfl) hC0 ?_ ?_
    · skip
      refine ⟨_, _, (.pointer (some ⟨mx, 0, none⟩)), rfl, rfl, ⟨rfl, fun W hW => by first | exact ⟨rfl, rfl⟩ | (simp only [Act.eval, execOp]; go_simp; try exact ⟨rfl, rfl⟩)⟩, ?_⟩
      simp only [Act.put, List.getElem_toArray, List.getElem_cons_zero, List.getElem_cons_succ, List.setIfInBounds_toArray, List.set_cons_succ, List.set_cons_zero]
      refine ⟨_, _, (.pointer (some ⟨mx, 0, none⟩)), rfl, rfl, ⟨rfl, fun W hW => by first | exact ⟨rfl, rfl⟩ | (simp only [Act.eval, execOp]; go_simp; try exact ⟨rfl, rfl⟩)⟩, ?_⟩
      simp only [Act.put, List.getElem_toArray, List.getElem_cons_zero, List.getElem_cons_succ, List.setIfInBounds_toArray, List.set_cons_succ, List.set_cons_zero]
      refine ⟨_, _, (.pointer (some ⟨g, 0, none⟩)), rfl, rfl, ⟨rfl, fun W hW => by have q0 := (HM.out.kp hW.kp).c0; simp only [execOp]; go_simp; done⟩, ?_⟩
      simp only [Act.put, List.getElem_toArray, List.getElem_cons_zero, List.getElem_cons_succ, List.setIfInBounds_toArray, List.set_cons_succ, List.set_cons_zero]
      refine ⟨_, _, (.int .i64 3), rfl, rfl, ⟨rfl, fun W hW => by first | exact ⟨rfl, rfl⟩ | (simp only [Act.eval, execOp]; go_simp; try exact ⟨rfl, rfl⟩)⟩, ?_⟩
      simp only [Act.put, List.getElem_toArray, List.getElem_cons_zero, List.getElem_cons_succ, List.setIfInBounds_toArray, List.set_cons_succ, List.set_cons_zero]
      refine ⟨_, _, (.pointer (some ⟨qb, 3, none⟩)), rfl, rfl, ⟨rfl, fun W hW => by first | exact ⟨rfl, rfl⟩ | (simp only [Act.eval, execOp]; go_simp; try exact ⟨rfl, rfl⟩)⟩, ?_⟩
      simp only [Act.put, List.getElem_toArray, List.getElem_cons_zero, List.getElem_cons_succ, List.setIfInBounds_toArray, List.set_cons_succ, List.set_cons_zero]
      refine ⟨_, _, (.int .i64 (q 3)), rfl, rfl, ⟨rfl, fun W hW => by have q0 := (HQ.out.kp hW.kp).c (p := 3) (by decide); simp only [execOp]; go_simp; done⟩, ?_⟩
      simp only [Act.put, List.getElem_toArray, List.getElem_cons_zero, List.getElem_cons_succ, List.setIfInBounds_toArray, List.set_cons_succ, List.set_cons_zero]
      refine ⟨_, _, (.int .i64 3), rfl, rfl, ⟨rfl, fun W hW => by first | exact ⟨rfl, rfl⟩ | (simp only [Act.eval, execOp]; go_simp; try exact ⟨rfl, rfl⟩)⟩, ?_⟩
      simp only [Act.put, List.getElem_toArray, List.getElem_cons_zero, List.getElem_cons_succ, List.setIfInBounds_toArray, List.set_cons_succ, List.set_cons_zero]
      refine ⟨_, _, (.int .i64 4), rfl, rfl, ⟨rfl, fun W hW => by first | exact ⟨rfl, rfl⟩ | (simp only [Act.eval, execOp]; go_simp; try exact ⟨rfl, rfl⟩)⟩, ?_⟩
      simp only [Act.put, List.getElem_toArray, List.getElem_cons_zero, List.getElem_cons_succ, List.setIfInBounds_toArray, List.set_cons_succ, List.set_cons_zero]
      refine ⟨_, _, (.pointer (some ⟨qb, 4, none⟩)), rfl, rfl, ⟨rfl, fun W hW => by first | exact ⟨rfl, rfl⟩ | (simp only [Act.eval, execOp]; go_simp; try exact ⟨rfl, rfl⟩)⟩, ?_⟩
      simp only [Act.put, List.getElem_toArray, List.getElem_cons_zero, List.getElem_cons_succ, List.setIfInBounds_toArray, List.set_cons_succ, List.set_cons_zero]
      refine ⟨_, _, (.int .i64 (q 4)), rfl, rfl, ⟨rfl, fun W hW => by have q0 := (HQ.out.kp hW.kp).c (p := 4) (by decide); simp only [execOp]; go_simp; done⟩, ?_⟩
      simp only [Act.put, List.getElem_toArray, List.getElem_cons_zero, List.getElem_cons_succ, List.setIfInBounds_toArray, List.set_cons_succ, List.set_cons_zero]
      refine ⟨_, _, (.int .i64 3), rfl, rfl, ⟨rfl, fun W hW => by first | exact ⟨rfl, rfl⟩ | (simp only [Act.eval, execOp]; go_simp; try exact ⟨rfl, rfl⟩)⟩, ?_⟩
      simp only [Act.put, List.getElem_toArray, List.getElem_cons_zero, List.getElem_cons_succ, List.setIfInBounds_toArray, List.set_cons_succ, List.set_cons_zero]
      refine ⟨_, _, (.int .i64 6), rfl, rfl, ⟨rfl, fun W hW => by first | exact ⟨rfl, rfl⟩ | (simp only [Act.eval, execOp]; go_simp; try exact ⟨rfl, rfl⟩)⟩, ?_⟩
      simp only [Act.put, List.getElem_toArray, List.getElem_cons_zero, List.getElem_cons_succ, List.setIfInBounds_toArray, List.set_cons_succ, List.set_cons_zero]
      refine ⟨_, _, (.pointer (some ⟨qb, 6, none⟩)), rfl, rfl, ⟨rfl, fun W hW => by first | exact ⟨rfl, rfl⟩ | (simp only [Act.eval, execOp]; go_simp; try exact ⟨rfl, rfl⟩)⟩, ?_⟩
      simp only [Act.put, List.getElem_toArray, List.getElem_cons_zero, List.getElem_cons_succ, List.setIfInBounds_toArray, List.set_cons_succ, List.set_cons_zero]
      refine ⟨_, _, (.int .i64 (q 6)), rfl, rfl, ⟨rfl, fun W hW => by have q0 := (HQ.out.kp hW.kp).c (p := 6) (by decide); simp only [execOp]; go_simp; done⟩, ?_⟩
      simp only [Act.put, List.getElem_toArray, List.getElem_cons_zero, List.getElem_cons_succ, List.setIfInBounds_toArray, List.set_cons_succ, List.set_cons_zero]
      refine ⟨_, _, (.int .i64 3), rfl, rfl, ⟨rfl, fun W hW => by first | exact ⟨rfl, rfl⟩ | (simp only [Act.eval, execOp]; go_simp; try exact ⟨rfl, rfl⟩)⟩, ?_⟩
      simp only [Act.put, List.getElem_toArray, List.getElem_cons_zero, List.getElem_cons_succ, List.setIfInBounds_toArray, List.set_cons_succ, List.set_cons_zero]
      refine ⟨_, _, (.int .i64 7), rfl, rfl, ⟨rfl, fun W hW => by first | exact ⟨rfl, rfl⟩ | (simp only [Act.eval, execOp]; go_simp; try exact ⟨rfl, rfl⟩)⟩, ?_⟩
      simp only [Act.put, List.getElem_toArray, List.getElem_cons_zero, List.getElem_cons_succ, List.setIfInBounds_toArray, List.set_cons_succ, List.set_cons_zero]
      refine ⟨_, _, (.pointer (some ⟨qb, 7, none⟩)), rfl, rfl, ⟨rfl, fun W hW => by first | exact ⟨rfl, rfl⟩ | (simp only [Act.eval, execOp]; go_simp; try exact ⟨rfl, rfl⟩)⟩, ?_⟩
      simp only [Act.put, List.getElem_toArray, List.getElem_cons_zero, List.getElem_cons_succ, List.setIfInBounds_toArray, List.set_cons_succ, List.set_cons_zero]
      refine ⟨_, _, (.int .i64 (q 7)), rfl, rfl, ⟨rfl, fun W hW => by have q0 := (HQ.out.kp hW.kp).c (p := 7) (by decide); simp only [execOp]; go_simp; done⟩, ?_⟩
      simp only [Act.put, List.getElem_toArray, List.getElem_cons_zero, List.getElem_cons_succ, List.setIfInBounds_toArray, List.set_cons_succ, List.set_cons_zero]
      refine ⟨_, _, (.agg #[.int .i64 (q 3), .int .i64 (q 4), .int .i64 (q 6), .int .i64 (q 7)]), rfl, rfl, ⟨rfl, fun W hW => by first | exact ⟨rfl, rfl⟩ | (simp only [Act.eval, execOp]; go_simp; try exact ⟨rfl, rfl⟩)⟩, ?_⟩
      simp only [Act.put, List.getElem_toArray, List.getElem_cons_zero, List.getElem_cons_succ, List.setIfInBounds_toArray, List.set_cons_succ, List.set_cons_zero]
      refine ⟨_, rfl, ?_⟩
      go_wp2_with fail
      refine (HIN.out w.drew hIx0).mono ?_
      rintro r w9 ⟨rfl, hi9, hb9⟩
      have hC := hC0.trans hb9
      go_wp2_with fail
      refine ⟨rfl, hC, ?_⟩
      refine ⟨_, _, (.int .i64 p), rfl, rfl, ⟨rfl, fun W hW => by first | exact ⟨rfl, rfl⟩ | (simp only [Act.eval, execOp]; go_simp; try exact ⟨rfl, rfl⟩)⟩, ?_⟩
      simp only [Act.put, List.getElem_toArray, List.getElem_cons_zero, List.getElem_cons_succ, List.setIfInBounds_toArray, List.set_cons_succ, List.set_cons_zero]
      refine ⟨_, _, (.int .i64 ee), rfl, rfl, ⟨rfl, fun W hW => by first | exact ⟨rfl, rfl⟩ | (simp only [Act.eval, execOp]; go_simp; try exact ⟨rfl, rfl⟩)⟩, ?_⟩
      simp only [Act.put, List.getElem_toArray, List.getElem_cons_zero, List.getElem_cons_succ, List.setIfInBounds_toArray, List.set_cons_succ, List.set_cons_zero]
      refine ⟨_, _, (.int .i64 p), rfl, rfl, ⟨rfl, fun W hW => by first | exact ⟨rfl, rfl⟩ | (simp only [Act.eval, execOp]; go_simp; try exact ⟨rfl, rfl⟩)⟩, ?_⟩
      simp only [Act.put, List.getElem_toArray, List.getElem_cons_zero, List.getElem_cons_succ, List.setIfInBounds_toArray, List.set_cons_succ, List.set_cons_zero]
      refine ⟨_, _, (.int .i64 ee), rfl, rfl, ⟨rfl, fun W hW => by first | exact ⟨rfl, rfl⟩ | (simp only [Act.eval, execOp]; go_simp; try exact ⟨rfl, rfl⟩)⟩, ?_⟩
      simp only [Act.put, List.getElem_toArray, List.getElem_cons_zero, List.getElem_cons_succ, List.setIfInBounds_toArray, List.set_cons_succ, List.set_cons_zero]
      refine ⟨?_, hi9, hC⟩
      first | rfl | simp only [Act.put, List.getElem_toArray, List.getElem_cons_zero, List.getElem_cons_succ, List.setIfInBounds_toArray, List.set_cons_succ, List.set_cons_zero]
    rintro a9 w9 ⟨rfl, hi9, hb9⟩
    simp only [Act.put, List.setIfInBounds_toArray, List.set_cons_succ, List.set_cons_zero]
    have HL := Lib.hid (HI.out.base hb9 hi9 HG.out.2 HG.out.1)
    have HB := Lib.hid hb9.l
    clear hi9 hb9 hC0 hIx0
    go_wp2_with fail
    go_ret2
    exact ⟨rfl, fun _ => HL.out, HB.out⟩
  · obtain ⟨⟨m, p, ee⟩, hz⟩ : ∃ z, z = put6 l room (q 4, q 5, q 7, q 8) := ⟨_, rfl⟩
    have hov : overK q (cornP 3) = (q 4, q 5, q 7, q 8) := rfl
    rw [hov, ← hz]
    have hgr := put_grows7 HI.out.right (q 4, q 5, q 7, q 8)
    have hrr := put_right HI.out.right (q 4, q 5, q 7, q 8)
    have hin := fun W hW => intern_anyK n0 g b l room (q 4, q 5, q 7, q 8) W hW HI.out.right
    rw [← hz] at hgr hrr hin
    unfold kidsV at hin
    have HIN := Lib.hid hin
    have HG := Lib.hid (And.intro hgr hrr)
    clear hin hgr hrr hz hov
    have hc : cornP 3 = 4 := rfl
    rw [hc]
    clear hc
    go_enter Try.func86, Try.ntmps86
    go_wp2_with fail
    have hC0 : BelK n0 b w w.drew := .of (below_drew w) HI.out.ix.hB
    have hIx0 := HI.out.ix.below (below_drew w)
    refine region_calm_to (fun W => BelK n0 b w W) (fun (a0 a9 : Act) (w9 : World) => a9 = ((((((((((((((((((((((((a0.put (some 6) (.pointer (some ⟨mx, 0, none⟩))).put (some 7) (.pointer (some ⟨mx, 0, none⟩))).put (some 8) (.pointer (some ⟨g, 0, none⟩))).put (some 9) (.int .i64 4)).put (some 10) (.pointer (some ⟨qb, 4, none⟩))).put (some 11) (.int .i64 (q 4))).put (some 12) (.int .i64 4)).put (some 13) (.int .i64 5)).put (some 14) (.pointer (some ⟨qb, 5, none⟩))).put (some 15) (.int .i64 (q 5))).put (some 16) (.int .i64 4)).put (some 17) (.int .i64 7)).put (some 18) (.pointer (some ⟨qb, 7, none⟩))).put (some 19) (.int .i64 (q 7))).put (some 20) (.int .i64 4)).put (some 21) (.int .i64 8)).put (some 22) (.pointer (some ⟨qb, 8, none⟩))).put (some 23) (.int .i64 (q 8))).put (some 24) (.agg #[.int .i64 (q 4), .int .i64 (q 5), .int .i64 (q 7), .int .i64 (q 8)])).put (some 25) (.tuple #[.int .i64 p, .int .i64 ee])).put (some 26) (.int .i64 p)).put (some 27) (.int .i64 ee)).put (some 4) (.int .i64 p)).put (some 5) (.int .i64 ee)) ∧ Ix n0 w9 g b m room ∧ BelK n0 b w w9) (.calm 0 (.calm 1 (.calm 2 (.calm 3 (.calm 4 (.calm 5 (.calm 6 (.calm 7 (.calm 8 (.calm 9 (.calm 10 (.calm 11 (.calm 12 (.calm 13 (.calm 14 (.calm 15 (.calm 16 (.calm 17 (.calm 18 (.only 19 (.calm 20 (.calm 21 (.calm 22 (.calm 23 .done)))))))))))))))))))))))) (by kernel_rfl) (by kernel_rfl) (by kernel_rfl) (by rfl) hC0 ?_ ?_
    · skip
      refine ⟨_, _, (.pointer (some ⟨mx, 0, none⟩)), rfl, rfl, ⟨rfl, fun W hW => by first | exact ⟨rfl, rfl⟩ | (simp only [Act.eval, execOp]; go_simp; try exact ⟨rfl, rfl⟩)⟩, ?_⟩
      simp only [Act.put, List.getElem_toArray, List.getElem_cons_zero, List.getElem_cons_succ, List.setIfInBounds_toArray, List.set_cons_succ, List.set_cons_zero]
      refine ⟨_, _, (.pointer (some ⟨mx, 0, none⟩)), rfl, rfl, ⟨rfl, fun W hW => by first | exact ⟨rfl, rfl⟩ | (simp only [Act.eval, execOp]; go_simp; try exact ⟨rfl, rfl⟩)⟩, ?_⟩
      simp only [Act.put, List.getElem_toArray, List.getElem_cons_zero, List.getElem_cons_succ, List.setIfInBounds_toArray, List.set_cons_succ, List.set_cons_zero]
      refine ⟨_, _, (.pointer (some ⟨g, 0, none⟩)), rfl, rfl, ⟨rfl, fun W hW => by have q0 := (HM.out.kp hW.kp).c0; simp only [execOp]; go_simp; done⟩, ?_⟩
      simp only [Act.put, List.getElem_toArray, List.getElem_cons_zero, List.getElem_cons_succ, List.setIfInBounds_toArray, List.set_cons_succ, List.set_cons_zero]
      refine ⟨_, _, (.int .i64 4), rfl, rfl, ⟨rfl, fun W hW => by first | exact ⟨rfl, rfl⟩ | (simp only [Act.eval, execOp]; go_simp; try exact ⟨rfl, rfl⟩)⟩, ?_⟩
      simp only [Act.put, List.getElem_toArray, List.getElem_cons_zero, List.getElem_cons_succ, List.setIfInBounds_toArray, List.set_cons_succ, List.set_cons_zero]
      refine ⟨_, _, (.pointer (some ⟨qb, 4, none⟩)), rfl, rfl, ⟨rfl, fun W hW => by first | exact ⟨rfl, rfl⟩ | (simp only [Act.eval, execOp]; go_simp; try exact ⟨rfl, rfl⟩)⟩, ?_⟩
      simp only [Act.put, List.getElem_toArray, List.getElem_cons_zero, List.getElem_cons_succ, List.setIfInBounds_toArray, List.set_cons_succ, List.set_cons_zero]
      refine ⟨_, _, (.int .i64 (q 4)), rfl, rfl, ⟨rfl, fun W hW => by have q0 := (HQ.out.kp hW.kp).c (p := 4) (by decide); simp only [execOp]; go_simp; done⟩, ?_⟩
      simp only [Act.put, List.getElem_toArray, List.getElem_cons_zero, List.getElem_cons_succ, List.setIfInBounds_toArray, List.set_cons_succ, List.set_cons_zero]
      refine ⟨_, _, (.int .i64 4), rfl, rfl, ⟨rfl, fun W hW => by first | exact ⟨rfl, rfl⟩ | (simp only [Act.eval, execOp]; go_simp; try exact ⟨rfl, rfl⟩)⟩, ?_⟩
      simp only [Act.put, List.getElem_toArray, List.getElem_cons_zero, List.getElem_cons_succ, List.setIfInBounds_toArray, List.set_cons_succ, List.set_cons_zero]
      refine ⟨_, _, (.int .i64 5), rfl, rfl, ⟨rfl, fun W hW => by first | exact ⟨rfl, rfl⟩ | (simp only [Act.eval, execOp]; go_simp; try exact ⟨rfl, rfl⟩)⟩, ?_⟩
      simp only [Act.put, List.getElem_toArray, List.getElem_cons_zero, List.getElem_cons_succ, List.setIfInBounds_toArray, List.set_cons_succ, List.set_cons_zero]
      refine ⟨_, _, (.pointer (some ⟨qb, 5, none⟩)), rfl, rfl, ⟨rfl, fun W hW => by first | exact ⟨rfl, rfl⟩ | (simp only [Act.eval, execOp]; go_simp; try exact ⟨rfl, rfl⟩)⟩, ?_⟩
      simp only [Act.put, List.getElem_toArray, List.getElem_cons_zero, List.getElem_cons_succ, List.setIfInBounds_toArray, List.set_cons_succ, List.set_cons_zero]
      refine ⟨_, _, (.int .i64 (q 5)), rfl, rfl, ⟨rfl, fun W hW => by have q0 := (HQ.out.kp hW.kp).c (p := 5) (by decide); simp only [execOp]; go_simp; done⟩, ?_⟩
      simp only [Act.put, List.getElem_toArray, List.getElem_cons_zero, List.getElem_cons_succ, List.setIfInBounds_toArray, List.set_cons_succ, List.set_cons_zero]
      refine ⟨_, _, (.int .i64 4), rfl, rfl, ⟨rfl, fun W hW => by first | exact ⟨rfl, rfl⟩ | (simp only [Act.eval, execOp]; go_simp; try exact ⟨rfl, rfl⟩)⟩, ?_⟩
      simp only [Act.put, List.getElem_toArray, List.getElem_cons_zero, List.getElem_cons_succ, List.setIfInBounds_toArray, List.set_cons_succ, List.set_cons_zero]
      refine ⟨_, _, (.int .i64 7), rfl, rfl, ⟨rfl, fun W hW => by first | exact ⟨rfl, rfl⟩ | (simp only [Act.eval, execOp]; go_simp; try exact ⟨rfl, rfl⟩)⟩, ?_⟩
      simp only [Act.put, List.getElem_toArray, List.getElem_cons_zero, List.getElem_cons_succ, List.setIfInBounds_toArray, List.set_cons_succ, List.set_cons_zero]
      refine ⟨_, _, (.pointer (some ⟨qb, 7, none⟩)), rfl, rfl, ⟨rfl, fun W hW => by first | exact ⟨rfl, rfl⟩ | (simp only [Act.eval, execOp]; go_simp; try exact ⟨rfl, rfl⟩)⟩, ?_⟩
      simp only [Act.put, List.getElem_toArray, List.getElem_cons_zero, List.getElem_cons_succ, List.setIfInBounds_toArray, List.set_cons_succ, List.set_cons_zero]
      refine ⟨_, _, (.int .i64 (q 7)), rfl, rfl, ⟨rfl, fun W hW => by have q0 := (HQ.out.kp hW.kp).c (p := 7) (by decide); simp only [execOp]; go_simp; done⟩, ?_⟩
      simp only [Act.put, List.getElem_toArray, List.getElem_cons_zero, List.getElem_cons_succ, List.setIfInBounds_toArray, List.set_cons_succ, List.set_cons_zero]
      refine ⟨_, _, (.int .i64 4), rfl, rfl, ⟨rfl, fun W hW => by first | exact ⟨rfl, rfl⟩ | (simp only [Act.eval, execOp]; go_simp; try exact ⟨rfl, rfl⟩)⟩, ?_⟩
      simp only [Act.put, List.getElem_toArray, List.getElem_cons_zero, List.getElem_cons_succ, List.setIfInBounds_toArray, List.set_cons_succ, List.set_cons_zero]
      refine ⟨_, _, (.int .i64 8), rfl, rfl, ⟨rfl, fun W hW => by first | exact ⟨rfl, rfl⟩ | (simp only [Act.eval, execOp]; go_simp; try exact ⟨rfl, rfl⟩)⟩, ?_⟩
      simp only [Act.put, List.getElem_toArray, List.getElem_cons_zero, List.getElem_cons_succ, List.setIfInBounds_toArray, List.set_cons_succ, List.set_cons_zero]
      refine ⟨_, _, (.pointer (some ⟨qb, 8, none⟩)), rfl, rfl, ⟨rfl, fun W hW => by first | exact ⟨rfl, rfl⟩ | (simp only [Act.eval, execOp]; go_simp; try exact ⟨rfl, rfl⟩)⟩, ?_⟩
      simp only [Act.put, List.getElem_toArray, List.getElem_cons_zero, List.getElem_cons_succ, List.setIfInBounds_toArray, List.set_cons_succ, List.set_cons_zero]
      refine ⟨_, _, (.int .i64 (q 8)), rfl, rfl, ⟨rfl, fun W hW => by have q0 := (HQ.out.kp hW.kp).c (p := 8) (by decide); simp only [execOp]; go_simp; done⟩, ?_⟩
      simp only [Act.put, List.getElem_toArray, List.getElem_cons_zero, List.getElem_cons_succ, List.setIfInBounds_toArray, List.set_cons_succ, List.set_cons_zero]
      refine ⟨_, _, (.agg #[.int .i64 (q 4), .int .i64 (q 5), .int .i64 (q 7), .int .i64 (q 8)]), rfl, rfl, ⟨rfl, fun W hW => by first | exact ⟨rfl, rfl⟩ | (simp only [Act.eval, execOp]; go_simp; try exact ⟨rfl, rfl⟩)⟩, ?_⟩
      simp only [Act.put, List.getElem_toArray, List.getElem_cons_zero, List.getElem_cons_succ, List.setIfInBounds_toArray, List.set_cons_succ, List.set_cons_zero]
      refine ⟨_, rfl, ?_⟩
      go_wp2_with fail
      refine (HIN.out w.drew hIx0).mono ?_
      rintro r w9 ⟨rfl, hi9, hb9⟩
      have hC := hC0.trans hb9
      go_wp2_with fail
      refine ⟨rfl, hC, ?_⟩
      refine ⟨_, _, (.int .i64 p), rfl, rfl, ⟨rfl, fun W hW => by first | exact ⟨rfl, rfl⟩ | (simp only [Act.eval, execOp]; go_simp; try exact ⟨rfl, rfl⟩)⟩, ?_⟩
      simp only [Act.put, List.getElem_toArray, List.getElem_cons_zero, List.getElem_cons_succ, List.setIfInBounds_toArray, List.set_cons_succ, List.set_cons_zero]
      refine ⟨_, _, (.int .i64 ee), rfl, rfl, ⟨rfl, fun W hW => by first | exact ⟨rfl, rfl⟩ | (simp only [Act.eval, execOp]; go_simp; try exact ⟨rfl, rfl⟩)⟩, ?_⟩
      simp only [Act.put, List.getElem_toArray, List.getElem_cons_zero, List.getElem_cons_succ, List.setIfInBounds_toArray, List.set_cons_succ, List.set_cons_zero]
      refine ⟨_, _, (.int .i64 p), rfl, rfl, ⟨rfl, fun W hW => by first | exact ⟨rfl, rfl⟩ | (simp only [Act.eval, execOp]; go_simp; try exact ⟨rfl, rfl⟩)⟩, ?_⟩
      simp only [Act.put, List.getElem_toArray, List.getElem_cons_zero, List.getElem_cons_succ, List.setIfInBounds_toArray, List.set_cons_succ, List.set_cons_zero]
      refine ⟨_, _, (.int .i64 ee), rfl, rfl, ⟨rfl, fun W hW => by first | exact ⟨rfl, rfl⟩ | (simp only [Act.eval, execOp]; go_simp; try exact ⟨rfl, rfl⟩)⟩, ?_⟩
      simp only [Act.put, List.getElem_toArray, List.getElem_cons_zero, List.getElem_cons_succ, List.setIfInBounds_toArray, List.set_cons_succ, List.set_cons_zero]
      refine ⟨?_, hi9, hC⟩
      first | rfl | simp only [Act.put, List.getElem_toArray, List.getElem_cons_zero, List.getElem_cons_succ, List.setIfInBounds_toArray, List.set_cons_succ, List.set_cons_zero]
    rintro a9 w9 ⟨rfl, hi9, hb9⟩
    simp only [Act.put, List.setIfInBounds_toArray, List.set_cons_succ, List.set_cons_zero]
    have HL := Lib.hid (HI.out.base hb9 hi9 HG.out.2 HG.out.1)
    have HB := Lib.hid hb9.l
    clear hi9 hb9 hC0 hIx0
    go_wp2_with fail
    go_ret2
    exact ⟨rfl, fun _ => HL.out, HB.out⟩
end Go.Proofs.Ytklccoodfhejbaa
namespace Go.Proofs.Ytklccoodfhejbaa
set_option maxRecDepth 100000
set_option linter.unusedVariables false
set_option linter.unusedSimpArgs false
open Go.RowKit Go.Sort

/-- what a leap of a node of the level e + 2 answers -/
def LeapAt (F : Nat) (n0 g b mb : Nat) (room : Int) (e : Nat) : Prop := ∀ (k jn : Nat) (l : List Nd) (w : World), LIn n0 w g b mb l room → Is l (e + 2) k → jn ≤ e → e ≤ 40 →
  Calls Try.prog F #[makerL g mb, .int .i64 (k : Int), .int .i64 (jn : Int)] w (LpR (leapN room e jn l k) n0 g b mb room w)
set_option maxHeartbeats 8000000 in
theorem anew_two (n0 g b mb : Nat) (room : Int) : LeapAt 65 n0 g b mb room 0 := by
  intro k jn l w hin hk hj he
  obtain rfl : jn = 0 := by omega
  have hn0 := hin.ix.hB
  have hal := ((Below.refl w.heap.size w).alloc (Nat.le_refl _) (.cells #[.pointer (some ⟨g, 0, none⟩), .map (some mb)] 76)).alloc (by simp) (.cells #[.int .i64 ((0 : Nat) : Int)] 3)
  have hM : ML ((w.alloc (.cells #[.pointer (some ⟨g, 0, none⟩), .map (some mb)] 76)).alloc (.cells #[.int .i64 ((0 : Nat) : Int)] 3)) w.heap.size g mb := heap_old (heap_new rfl)
  have HI := Lib.hid (hin.below hal)
  have HM := Lib.hid hM
  have HA := Lib.hid (BelL.of hal hn0)
  have HR := Lib.hid hin.right
  have hlv := levelL_any room n0 g b mb l k hk.lt _ HI.out.ix hin.right
  rw [show (l.getD k deadN).1 = 2 from hk.lev] at hlv
  have hz : stepZ room l (k : Int) = put6 l room (stepK l k) := by unfold stepZ; rw [if_pos (show levI l (k : Int) = 2 from lev_at hk), Int.toNat_natCast]
  have hg := put_grows7 HR.out (stepK l k)
  have hr := put_right HR.out (stepK l k)
  have hst := fun W hW => makerStep_any room n0 g b l (k : Int) W hW HR.out
  rw [← hz] at hg hr
  rw [show leapN room 0 0 l (k : Int) = stepZ room l (k : Int) from rfl]
  generalize stepZ room l (k : Int) = z at *
  obtain ⟨zl, zn, ze⟩ := z
  have HG := Lib.hid (And.intro hg hr)
  have HST := Lib.hid hst
  have m0 := hM.c0
  have m1 := hM.c1
  have HK := Lib.hid hk
  clear hal hM hin hk hg hr hz hst
  go_enter Try.func65, Try.ntmps65
  go_wp2_with fail
  generalize ((w.alloc (.cells #[.pointer (some ⟨g, 0, none⟩), .map (some mb)] 76)).alloc (.cells #[.int .i64 ((0 : Nat) : Int)] 3)) = w0 at *
  refine hlv.mono ?_
  rintro r w1 ⟨rfl, hb1⟩
  have hal := (Below.refl w1.heap.size w1).alloc (Nat.le_refl _) (.cells #[.int .i64 2] 3)
  have hbb := Qt.more hb1 hb1.size hal
  have HI1 := Lib.hid (HI.out.below hbb)
  have HM1 := Lib.hid (HM.out.below hbb)
  have HA1 := Lib.hid (HA.out.trans (.of hbb HI.out.ix.hB))
  have m0' := HM1.out.c0
  have hst := HST.out _ HI1.out.ix
  clear hlv hb1 hal hbb m0 m1 HI HM HA HST
  go_wp2_with fail
  generalize (w1.alloc (.cells #[.int .i64 2] 3)) = v1 at *
  refine hst.mono ?_
  rintro r w2 ⟨rfl, hi2, hb2⟩
  have HL := Lib.hid (HI1.out.base hb2 hi2 HG.out.2 HG.out.1)
  have HB := Lib.hid (HA1.out.trans hb2.l)
  clear hst hi2 hb2 m0'
  go_wp2_with fail
  go_ret2
  exact ⟨rfl, fun _ => HL.out, HB.out⟩
end Go.Proofs.Ytklccoodfhejbaa
namespace Go.Proofs.Ytklccoodfhejbaa
set_option maxRecDepth 100000
set_option linter.unusedVariables false
set_option linter.unusedSimpArgs false

section
variable {room : Int} {l : List Nd}
theorem Many.ok {α : Type} {f : List Nd → List Nd × α × Int} {N : Nat} {Q : List Nd → α → Prop} (h : ManyR room l f N Q) (he : (f l).2.2 = 0) : Grows l (f l).1 ∧ Right6 (f l).1 room ∧ Q (f l).1 (f l).2.1 := by
  rcases h with ⟨h1, _⟩ | ⟨m, q, e, g, r, _, hq, _⟩
  · rw [he] at h1; exact absurd h1 (by decide)
  · rw [e]; exact ⟨g, r, hq⟩
theorem Done.ok {f : List Nd → Zn} {N : Nat} {Q : List Nd → Nat → Prop} (h : DoneR room l f N Q) (he : (f l).2.2 = 0) : Grows l (f l).1 ∧ Right6 (f l).1 room ∧ ∃ p : Nat, (f l).2.1 = (p : Int) ∧ Q (f l).1 p ∧ ∀ b, Grows (f l).1 b → Right6 b room → f b = (b, (p : Int), 0) := by
  rcases h with ⟨h1, _⟩ | ⟨m, p, e, g, r, _, hq, a⟩
  · rw [he] at h1; exact absurd h1 (by decide)
  · rw [e]; exact ⟨g, r, p, rfl, hq, a⟩
theorem and_err {α : Type} (z : List Nd × α × Int) (f : List Nd → α → Zn) (hf : ∀ l a, ¬ (f l a).2.2 = 0 → (f l a).2.1 = 0) (h : ¬ (andZ z f).2.2 = 0) : (andZ z f).2.1 = 0 := by
  unfold andZ at h ⊢
  split
  · next hz => rw [if_pos hz] at h; exact hf _ _ h
  · rfl
theorem put_err0 (l : List Nd) (room : Int) (k : Kd) (h : ¬ (put6 l room k).2.2 = 0) : (put6 l room k).2.1 = 0 := by rw [put_err h]
theorem far_err (first second : List Nd → Int → Zn) (l : List Nd) (n : Int) (h : ¬ (farZ room first second l n).2.2 = 0) : (farZ room first second l n).2.1 = 0 := by
  unfold farZ at h ⊢
  exact and_err _ _ (fun l1 p => and_err _ _ fun l2 q => and_err _ _ fun l3 r => and_err _ _ fun l4 s => put_err0 l4 room _) h
/-- with an error no place is told -/
theorem leap_err (room : Int) : ∀ (e j : Nat) (l : List Nd) (n : Int), ¬ (leapN room e j l n).2.2 = 0 → (leapN room e j l n).2.1 = 0
  | 0, j, l, n, h => by
    have h' : ¬ (stepZ room l n).2.2 = 0 := h
    show (stepZ room l n).2.1 = 0
    unfold stepZ at h' ⊢
    split
    · next hl => rw [if_pos hl] at h'; exact put_err0 _ _ _ h'
    · rfl
  | e + 1, j, l, n, h => far_err _ _ l n h
end
end Go.Proofs.Ytklccoodfhejbaa
