/-
  Texts that the claims of this seat share, part 15.
-/
import Derived.Test.YtgjibpgfcbdpgaaB14
set_option linter.unusedVariables false
set_option linter.unusedSimpArgs false
namespace Go.Proofs.Ytgjibpgfcbdpgaa
set_option maxRecDepth 100000
set_option linter.unusedVariables false
set_option linter.unusedSimpArgs false
open Go.RowKit Go.Sort
open Go.Maps (Keyed)

theorem jumpKeyed : Keyed Try.prog 100 :=
  Keyed.of_law (deep_law_laid laidOut6 (m := 2) (by omega) (of_decide_eq_true (by kernel_rfl)) (by kernel_rfl) (by rw [Try.underlying100]))
/-- what a node and an exponent read as, as a key -/
def kj (n j : Int) : Lit := .string (keyBytes [.int .i64 n, .int .i64 j])
/-- what may be a key -/
def JKey (n j : Int) : Prop := (0 ≤ n ∧ n ≤ 100000) ∧ (0 ≤ j ∧ j ≤ 42)
theorem keyOf_jump {n j : Int} (h : JKey n j) : keyOf Try.prog 100 (.agg #[.int .i64 n, .int .i64 j]) = some (kj n j) := by
  have hkt : Try.prog.keyType 100 = true := by kernel_rfl
  have hsz : ∃ m, Try.prog.types.size = m + 1 := ⟨Try.prog.types.size - 1, by have : 0 < Try.prog.types.size := of_decide_eq_true (by kernel_rfl); omega⟩
  have hc2 : Try.prog.cellsOf 100 = 2 := by kernel_rfl
  have hc1 : Try.prog.cellsOf 3 = 1 := by kernel_rfl
  obtain ⟨m, hm⟩ := hsz
  have w1 := wf_small (a := n) ⟨h.1.1, by have := h.1.2; omega⟩
  have w2 := wf_small (a := j) ⟨h.2.1, by have := h.2.2; omega⟩
  unfold keyOf
  simp only [Try.underlying100]
  rw [if_pos (by simp [hkt, Value.formed, Try.underlying100, hc2]), hm]
  unfold Program.keyLits
  simp only [Try.underlying100, Value.cells]
  rw [if_pos (by rw [hc2]; simp)]
  simp [hc1, Program.keyLits, Try.underlying3, w1, w2, kj]
theorem kj_inj {n j n' j' : Int} (h : JKey n j) (h' : JKey n' j') (e : kj n j = kj n' j') : n = n' ∧ j = j' := by
  have h1 := keyOf_jump h
  have h2 := keyOf_jump h'
  rw [← e] at h2
  have := jumpKeyed.inj h1 h2
  injection this with this
  injection this with this
  injection this with h3 h4
  injection h4 with h4 _
  injection h3 with _ h3
  injection h4 with _ h4
  exact ⟨h3, h4⟩
abbrev MapJ (w : World) (b n : Nat) (D : DataW Unit) : Prop := w.ownsMap Try.prog 100 (plainElem Try.prog 3) b n D
/-! ### a map of leaps has no more entries than there are keys -/
theorem nodup_le {α : Type} : ∀ (l m : List α), l.Pairwise (fun x y => x ≠ y) → (∀ x ∈ l, x ∈ m) → l.length ≤ m.length := by
  classical
  intro l
  induction l with
  | nil => exact fun _ _ _ => Nat.zero_le _
  | cons x l ih =>
    intro m h hm
    rw [List.pairwise_cons] at h
    have hx := hm x (List.mem_cons_self ..)
    have := ih (m.erase x) h.2 fun y hy => (List.mem_erase_of_ne (h.1 y hy).symm).2 (hm y (List.mem_cons_of_mem _ hy))
    rw [List.length_erase_of_mem hx] at this
    have := List.length_pos_of_mem hx
    simp only [List.length_cons]
    omega
def jRow (n : Nat) : List Lit := (List.range 43).map fun j : Nat => kj (n : Int) (j : Int)
/-- all that may be keys -/
def jAll : List Lit := (List.range 100001).flatMap jRow
theorem jTo_len : ∀ N, ((List.range N).flatMap jRow).length = N * 43
  | 0 => rfl
  | N + 1 => by
    rw [List.range_succ, List.flatMap_append, List.length_append, jTo_len N]
    simp [jRow]
    omega
theorem mem_jAll {n j : Int} (h : JKey n j) : kj n j ∈ jAll := by
  unfold JKey at h
  refine List.mem_flatMap.2 ⟨n.toNat, List.mem_range.2 (by omega), List.mem_map.2 ⟨j.toNat, List.mem_range.2 (by omega), ?_⟩⟩
  rw [show ((n.toNat : Nat) : Int) = n by omega, show ((j.toNat : Nat) : Int) = j by omega]
theorem MapJ.tight {w : World} {b N : Nat} {D : DataW Unit} (h : MapJ w b N D) (hk : ∀ kl, Maps.has D kl = true → kl ∈ jAll) : MapJ w b 4300043 D := by
  obtain ⟨es, c, h1, F, h2, rfl⟩ := h
  refine ⟨es, c, h1, F, ?_, rfl⟩
  have hap := Go.Maps.fit_apart jumpKeyed F
  have hle := nodup_le ((es.toList.map (Go.WideElems.rg Try.prog 100 (plainElem Try.prog 3))).map (·.1)) jAll (by rw [List.pairwise_map]; exact hap) fun x hx => by
    obtain ⟨y, hy, rfl⟩ := List.mem_map.1 hx
    refine hk _ (List.any_eq_true.2 ⟨y, (Go.WideShapes.sorted_perm _).mem_iff.2 hy, Go.WideAt.sameKey_self ?_⟩)
    obtain ⟨x, hx', rfl⟩ := List.mem_map.1 hy
    obtain ⟨y', hy'⟩ := F.reads x hx'
    unfold Go.WideElems.rg
    rw [hy']
    unfold Go.WideElems.rd at hy'
    obtain ⟨key, hkey, hm⟩ := Option.bind_eq_some_iff.1 hy'
    obtain ⟨r, _, rfl⟩ := Option.map_eq_some_iff.1 hm
    exact jumpKeyed.key hkey
  have hl : jAll.length = 4300043 := jTo_len 100001
  rw [hl] at hle
  simpa using hle
/-- each of a map's leaps is what it is said to be -/
def SaysJ (D : DataW Unit) (ok : Int → Int → Int → Prop) : Prop := (Maps.IsMap D ∧ ∀ kl, Maps.has D kl = true → kl ∈ jAll) ∧ ∀ n j, JKey n j → Maps.has D (kj n j) = true → ∃ to : Int, D.atKey (kj n j) zero4 = .lit (.int .i64 to) ∧ ok n j to
theorem saysJ_new (ok : Int → Int → Int → Prop) : SaysJ (.map []) ok := ⟨⟨Maps.isMap_empty, fun kl h => by cases h⟩, fun n j _ h => by cases h⟩
theorem SaysJ.mono {D : DataW Unit} {ok ok' : Int → Int → Int → Prop} (h : SaysJ D ok) (hk : ∀ n j to, ok n j to → ok' n j to) : SaysJ D ok' := ⟨h.1, fun n j hj hh => by
  obtain ⟨to, e, h1⟩ := h.2 n j hj hh
  exact ⟨to, e, hk _ _ _ h1⟩⟩
theorem saysJ_put {D : DataW Unit} {ok : Int → Int → Int → Prop} {n j to : Int} (h : SaysJ D ok) (hj : JKey n j) (ht : ok n j to) : SaysJ (D.put (kj n j) (.lit (.int .i64 to))) ok := by
  refine ⟨⟨h.1.1.put _ _, fun kl hh => ?_⟩, fun q i hq hh => ?_⟩
  · by_cases e : kl = kj n j
    · rw [e]; exact mem_jAll hj
    · rw [Maps.has_put_other e] at hh
      exact h.1.2 kl hh
  have hkey : WideAt.IsKeyLit (kj n j) := jumpKeyed.key (keyOf_jump hj)
  by_cases e : q = n ∧ i = j
  · obtain ⟨rfl, rfl⟩ := e
    exact ⟨to, Maps.atKey_put_same h.1.1 hkey _ _, ht⟩
  · have hne : kj q i ≠ kj n j := fun e' => e (kj_inj hq hj e')
    rw [Maps.has_put_other hne] at hh
    rw [Maps.atKey_put_other hne]
    exact h.2 q i hq hh
/-- a look-up in it -/
theorem lookJ_run {W : World} {b N : Nat} {D : DataW Unit} {ok : Int → Int → Int → Prop} {n j : Int} (hm : MapJ W b N D) (hs : SaysJ D ok) (hj : JKey n j) :
    (∃ to : Int, ok n j to ∧ (Instr.lookup 74 (.map (some b)) (.agg #[.int .i64 n, .int .i64 j]) true).run Try.prog W = .ok (.tuple #[.int .i64 to, .bool true]) W) ∨ ∃ to : Int, (Instr.lookup 74 (.map (some b)) (.agg #[.int .i64 n, .int .i64 j]) true).run Try.prog W = .ok (.tuple #[.int .i64 to, .bool false]) W := by
  obtain ⟨v, ps, hrun, hv⟩ := hm.look_ok jumpKeyed Try.underlying74 (Try.zeroValue3 W) (plainElem_int Try.underlying3 (by decide)) (keyOf_jump hj)
  obtain ⟨a, rfl, hz, _⟩ := plainElem_int_inv Try.underlying3 hv
  have he : D.atKey (kj n j) zero4 = .lit (.int .i64 a) := congrArg Prod.fst hz
  cases hh : Maps.has D (kj n j) with
  | true =>
    obtain ⟨to, e, h1⟩ := hs.2 n j hj hh
    rw [he] at e
    injection e with e
    injection e with _ e
    subst e
    rw [hh] at hrun
    exact .inl ⟨_, h1, hrun⟩
  | false =>
    rw [hh] at hrun
    exact .inr ⟨_, hrun⟩
end Go.Proofs.Ytgjibpgfcbdpgaa
namespace Go.Proofs.Ytgjibpgfcbdpgaa
set_option maxRecDepth 100000
set_option linter.unusedVariables false
set_option linter.unusedSimpArgs false
open Go.RowKit Go.Sort

/-- a leap that is there already -/
def okJ (room : Int) (l : List Nd) (n j to : Int) : Prop := ∃ (k jn p e : Nat), n = k ∧ j = jn ∧ to = p ∧ Is l (e + 2) k ∧ jn ≤ e ∧ ∀ b, Grows l b → Right6 b room → leapN room e jn b k = (b, (p : Int), 0)
theorem okJ.grows {room : Int} {l m : List Nd} {n j to : Int} (g : Grows l m) (h : okJ room l n j to) : okJ room m n j to := by
  obtain ⟨k, jn, p, e, h1, h2, h3, h4, h5, h6⟩ := h
  exact ⟨k, jn, p, e, h1, h2, h3, h4.grows g, h5, fun b gb rb => h6 b (g.trans gb) rb⟩
/-- Below, and what is of other kinds than nodes and indexes is left alone. -/
structure BelL (n0 : Nat) (w w' : World) : Prop where
  bel : Below n0 w w'
  kp : Kp w w'
theorem BelL.refl (n0 : Nat) (w : World) : BelL n0 w w := ⟨Below.refl _ _, Kp.refl _⟩
theorem BelL.trans {n0 : Nat} {w w' w2 : World} (h : BelL n0 w w') (h2 : BelL n0 w' w2) : BelL n0 w w2 := ⟨h.bel.trans h2.bel, h.kp.trans h2.kp⟩
theorem BelL.of {n0 : Nat} {w w' : World} (hb : Below w.heap.size w w') (h : n0 ≤ w.heap.size) : BelL n0 w w' := ⟨hb.mono h, Kp.below hb⟩
theorem BelK.l {n0 b : Nat} {w w' : World} (h : BelK n0 b w w') : BelL n0 w w' := ⟨h.bel, h.kp⟩
theorem BelL.setNew {n0 : Nat} {w wr : World} (h : BelL n0 w wr) {kb : Nat} (hk : w.heap.size ≤ kb) (hn : n0 ≤ w.heap.size) (j : Nat) (u : Value) : BelL n0 w (wr.setCell ⟨kb, j, none⟩ u) := by
  refine ⟨h.bel.setCell (by show n0 ≤ kb; omega) _, fun i cs T fz hi h0 => ?_⟩
  rw [Below.heap_setCell _ _ _ _ (by show i ≠ kb; have := lt_heap6 hi; omega)]
  exact h.kp i cs T fz hi h0
/-- What is known while a store's nodes are leapt. -/
structure LIn (n0 : Nat) (w : World) (g b mb : Nat) (l : List Nd) (room : Int) : Prop where
  ix : Ix n0 w g b l room
  right : Right6 l room
  memo : ∃ N D, MapJ w mb N D ∧ SaysJ D (okJ room l)
  ne : mb ≠ b
  mB : n0 ≤ mb
section
variable {n0 g b mb : Nat} {w w' : World} {l m : List Nd} {room : Int}
theorem MapJ.at_ {N : Nat} {D : DataW Unit} (h : MapJ w mb N D) (he : w'.heap[mb]? = w.heap[mb]?) : MapJ w' mb N D := by
  obtain ⟨es, c, hb, r⟩ := h
  exact ⟨es, c, he.trans hb, r⟩
theorem LIn.below (h : LIn n0 w g b mb l room) (hb : Below w.heap.size w w') : LIn n0 w' g b mb l room := by
  obtain ⟨N, D, h1, h2⟩ := h.memo
  obtain ⟨es, c, hm, _⟩ := id h1
  exact ⟨h.ix.below hb, h.right, ⟨N, D, MapJ.at_ h1 (hb.block _ (lt_heap6 hm)), h2⟩, h.ne, h.mB⟩
/-- a maker of another layer made something -/
theorem LIn.base (h : LIn n0 w g b mb l room) (hk : BelK n0 b w w') (hi : Ix n0 w' g b m room) (hr : Right6 m room) (gr : Grows l m) : LIn n0 w' g b mb m room := by
  obtain ⟨N, D, h1, h2⟩ := h.memo
  obtain ⟨es, c, hm, _⟩ := id h1
  exact ⟨hi, hr, ⟨N, D, MapJ.at_ h1 ((hk.mp _ _ _ h.ne hm).trans hm.symm), h2.mono fun _ _ _ ho => ho.grows gr⟩, h.ne, h.mB⟩
theorem LIn.set (h : LIn n0 w g b mb l room) {kb : Nat} {cs : Array Value} {T : TypeId} {fz : Nat × Nat} (hk : w.heap[kb]? = some (.cells cs T fz)) (hoff : Off cs T) (j : Nat) (u : Value) : LIn n0 (w.setCell ⟨kb, j, none⟩ u) g b mb l room := by
  obtain ⟨N, D, h1, h2⟩ := h.memo
  obtain ⟨es, c, hm, _⟩ := id h1
  refine ⟨?_, h.right, ⟨N, D, MapJ.at_ h1 (Below.heap_setCell _ _ _ _ (by show mb ≠ kb; intro e; subst e; rw [hm] at hk; injection hk with hk; cases hk)), h2⟩, h.ne, h.mB⟩
  exact h.ix.setOff h.right.two hk hoff j u
end
/-- What a leap answers, and what uses one. -/
def LpR (z : Zn) (n0 g b mb : Nat) (room : Int) (w : World) (e : Ending) (w' : World) : Prop :=
  e = .returned (.tuple #[.int .i64 z.2.1, .int .i64 z.2.2]) ∧ (z.2.2 = 0 → LIn n0 w' g b mb z.1 room) ∧ BelL n0 w w'
/-- four numbers in a box -/
def N4 (w : World) (b : Nat) (f : Nat → Int) : Prop := w.heap[b]? = some (.cells #[.int .i64 (f 0), .int .i64 (f 1), .int .i64 (f 2), .int .i64 (f 3)] 33 (0, 0))
theorem N4.c {w : World} {b : Nat} {f : Nat → Int} (h : N4 w b f) {p : Nat} (hp : p < 4) : w.cell? ⟨b, p, none⟩ = some (.int .i64 (f p)) := by
  rw [Lib.cell_of_heap h]
  rcases (by omega : p = 0 ∨ p = 1 ∨ p = 2 ∨ p = 3) with rfl | rfl | rfl | rfl <;> rfl
theorem N4.f {w : World} {b : Nat} {f : Nat → Int} (h : N4 w b f) (p : Nat) : w.frozen? ⟨b, p, none⟩ = false := Lib.frozen_of_heap h p
theorem N4.set {w : World} {b : Nat} {f : Nat → Int} (h : N4 w b f) {p : Nat} (hp : p < 4) (x : Int) : N4 (w.setCell ⟨b, p, none⟩ (.int .i64 x)) b (fun i => if i = p then x else f i) := by
  unfold N4 at h ⊢
  rcases (by omega : p = 0 ∨ p = 1 ∨ p = 2 ∨ p = 3) with rfl | rfl | rfl | rfl <;> simp [World.setCell, Array.getElem?_modify, h]
theorem N4.kp {w w' : World} {b : Nat} {f : Nat → Int} (h : N4 w b f) (hk : Kp w w') : N4 w' b f := hk _ _ _ _ h ⟨.inl (by decide), by decide⟩
set_option maxHeartbeats 8000000 in
theorem each9_3 (F : Nat) (eg : ∀ args w, (callFunc F args).run Try.prog w = .ok (.enter F args) w) (k0 k1 k2 : Value) (n0 g b mb : Nat) (room : Int) (f : List Nd → Int → Zn) (l : List Nd) (p : Nat → Int) (qb : Nat) (P : World → Prop) (w : World) (hP0 : P w) (hPk : ∀ W W', P W → BelL n0 W W' → P W') (hPs : ∀ W j u, P W → P (W.setCell ⟨qb, j, none⟩ u))
    (hq : N9 w qb p) (hin : LIn n0 w g b mb l room) (hn0 : n0 ≤ qb)
    (hf : ∀ i, i < 9 → ∀ W, P W → LIn n0 W g b mb (eachTo f l p i).1 room → (eachTo f l p i).2.2 = 0 → Calls Try.prog F #[.int .i64 (p i), k0, k1, k2] W (LpR (f (eachTo f l p i).1 (p i)) n0 g b mb room W)) :
    Calls Try.prog 85 #[.slice (some ⟨qb, 0, none⟩) 9 9, .func (.func F) #[] #[k0, k1, k2]] w fun e w' => e = .returned (.int .i64 (eachTo f l p 9).2.2) ∧ ((eachTo f l p 9).2.2 = 0 → N9 w' qb (eachTo f l p 9).2.1 ∧ LIn n0 w' g b mb (eachTo f l p 9).1 room) ∧ P w' ∧ Below n0 w w' := by
  have HPK := Lib.hid hPk
  have HPS := Lib.hid hPs
  have HF := Lib.hid hf
  have HQ := Lib.hid hq
  have HI := Lib.hid hin
  have HP := Lib.hid hP0
  clear hPk hPs hf hq hin hP0
  go_enter Try.func85, Try.ntmps85
  go_wp2_with fail
  go_loopw [10] (fun u wr => ∃ i : Nat, i ≤ 9 ∧ u = .int .i64 i ∧ Hid (P wr) ∧ Hid (N9 wr qb (eachTo f l p i).2.1) ∧ Hid ((eachTo f l p i).2.2 = 0) ∧ Hid (LIn n0 wr g b mb (eachTo f l p i).1 room) ∧ Hid (Below n0 w wr)) (fun u _ => 9 - (intOf u).toNat)
  case atStart => exact ⟨0, by omega, rfl, HP.out, HQ.out, rfl, HI.out, Below.refl _ _⟩
  case round =>
    obtain ⟨i, hi, rfl, HP, HQ, HE, HI, HB⟩ := hrel
    by_cases hlt : i < 9
    · have hltz : (i : Int) < 9 := by omega
      have hpi : ∀ t, t ≤ 9 → ∀ s, t ≤ s → (eachTo f l p t).2.1 s = p s := fun t => by
        induction t with
        | zero => exact fun _ _ _ => rfl
        | succ t ih =>
          intro ht s hs
          unfold eachTo
          split
          · show (if s = t then _ else _) = _
            rw [if_neg (by omega)]
            exact ih (by omega) s (by omega)
          · exact ih (by omega) s (by omega)
      have c0 := HQ.out.c (p := i) (by omega)
      rw [hpi i (by omega) i (Nat.le_refl _)] at c0
      have hstep : eachTo f l p (i + 1) = ((f (eachTo f l p i).1 (p i)).1, fun t => if t = i then (f (eachTo f l p i).1 (p i)).2.1 else (eachTo f l p i).2.1 t, (f (eachTo f l p i).1 (p i)).2.2) := by
        show (if (eachTo f l p i).2.2 = 0 then _ else _) = _
        rw [if_pos HE.out]
      have hcall := HF.out i hlt wr HP.out HI.out HE.out
      obtain ⟨⟨zl, zn, ze⟩, hz⟩ : ∃ z, z = f (eachTo f l p i).1 (p i) := ⟨_, rfl⟩
      rw [← hz] at hcall hstep
      have HST := Lib.hid hstep
      generalize hpp : p i = pi at *
      clear hpi hstep hz HI
      go_wp2_with fail
      refine hcall.mono ?_
      rintro e w2 ⟨rfl, hl2, hb2⟩
      dsimp only at hl2
      have hq2 := HQ.out.kp hb2.kp
      have hP2 := HPK.out _ _ HP.out hb2
      have c1 := hq2.c (p := i) hlt
      have f1 := hq2.f i
      have hB2 := HB.out.trans hb2.bel
      have HQ3 := Lib.hid (hq2.set (p := i) hlt zn)
      have HP3 := Lib.hid (HPS.out _ i (.int .i64 zn) hP2)
      have HB3 := Lib.hid (hB2.setCell (p := ⟨qb, i, none⟩) hn0 (.int .i64 zn))
      by_cases hze : ze = 0
      · subst hze
        have HI3 := Lib.hid ((hl2 rfl).set hq2 ⟨.inl (by decide), by decide⟩ i (.int .i64 zn))
        clear hcall hl2 hb2 hq2 hP2 hB2 c0
        go_wp2_with fail
        go_roundw
        case measure => simp [intOf]; omega
        case rel => exact ⟨i + 1, by omega, by go_num, HP3.out, by rw [HST.out]; exact HQ3.out, by rw [HST.out]; rfl, by rw [HST.out]; exact HI3.out, HB3.out⟩
      · have hstop : ∀ d, (eachTo f l p (i + 1 + d)).2.2 = ze := fun d => by
          induction d with
          | zero => rw [Nat.add_zero, HST.out]
          | succ d ih =>
            show (if (eachTo f l p (i + 1 + d)).2.2 = 0 then _ else eachTo f l p (i + 1 + d)).2.2 = _
            rw [ih, if_neg hze]
            exact ih
        have h9 := hstop (9 - (i + 1))
        rw [show i + 1 + (9 - (i + 1)) = 9 by omega] at h9
        have hzb : (ze == 0) = false := beq_eq_false_iff_ne.2 hze
        have H9 := Lib.hid h9
        clear h9
        clear hcall hl2 hb2 hq2 hP2 hB2 c0 hstop
        go_wp2_with fail
        go_ret
        exact ⟨(by rw [H9.out]; first | done | rfl), fun h => absurd (H9.out.symm.trans h) hze, HP3.out, HB3.out⟩
    · obtain rfl : i = 9 := by omega
      have hltz : ¬ ((9 : Nat) : Int) < 9 := by decide
      go_wp2_with fail
      go_ret
      exact ⟨(by rw [HE.out]; first | done | rfl), fun _ => ⟨HQ.out, HI.out⟩, HP.out, HB.out⟩
set_option maxHeartbeats 8000000 in
theorem each9_b (F : Nat) (eg : ∀ args w, (callFunc F args).run Try.prog w = .ok (.enter F args) w) (k0 : Value) (n0 g b mb : Nat) (room : Int) (f : List Nd → Int → Zn) (l : List Nd) (p : Nat → Int) (qb : Nat) (P : World → Prop) (w : World) (hP0 : P w) (hPk : ∀ W W', P W → BelL n0 W W' → P W') (hPs : ∀ W j u, P W → P (W.setCell ⟨qb, j, none⟩ u))
    (hq : N9 w qb p) (hin : LIn n0 w g b mb l room) (hn0 : n0 ≤ qb)
    (hf : ∀ i, i < 9 → ∀ W, P W → LIn n0 W g b mb (eachTo f l p i).1 room → (eachTo f l p i).2.2 = 0 → Calls Try.prog F #[k0, .int .i64 (p i)] W (LpR (f (eachTo f l p i).1 (p i)) n0 g b mb room W)) :
    Calls Try.prog 85 #[.slice (some ⟨qb, 0, none⟩) 9 9, .func (.func F) #[k0] #[]] w fun e w' => e = .returned (.int .i64 (eachTo f l p 9).2.2) ∧ ((eachTo f l p 9).2.2 = 0 → N9 w' qb (eachTo f l p 9).2.1 ∧ LIn n0 w' g b mb (eachTo f l p 9).1 room) ∧ P w' ∧ Below n0 w w' := by
  have HPK := Lib.hid hPk
  have HPS := Lib.hid hPs
  have HF := Lib.hid hf
  have HQ := Lib.hid hq
  have HI := Lib.hid hin
  have HP := Lib.hid hP0
  clear hPk hPs hf hq hin hP0
  go_enter Try.func85, Try.ntmps85
  go_wp2_with fail
  go_loopw [10] (fun u wr => ∃ i : Nat, i ≤ 9 ∧ u = .int .i64 i ∧ Hid (P wr) ∧ Hid (N9 wr qb (eachTo f l p i).2.1) ∧ Hid ((eachTo f l p i).2.2 = 0) ∧ Hid (LIn n0 wr g b mb (eachTo f l p i).1 room) ∧ Hid (Below n0 w wr)) (fun u _ => 9 - (intOf u).toNat)
  case atStart => exact ⟨0, by omega, rfl, HP.out, HQ.out, rfl, HI.out, Below.refl _ _⟩
  case round =>
    obtain ⟨i, hi, rfl, HP, HQ, HE, HI, HB⟩ := hrel
    by_cases hlt : i < 9
    · have hltz : (i : Int) < 9 := by omega
      have hpi : ∀ t, t ≤ 9 → ∀ s, t ≤ s → (eachTo f l p t).2.1 s = p s := fun t => by
        induction t with
        | zero => exact fun _ _ _ => rfl
        | succ t ih =>
          intro ht s hs
          unfold eachTo
          split
          · show (if s = t then _ else _) = _
            rw [if_neg (by omega)]
            exact ih (by omega) s (by omega)
          · exact ih (by omega) s (by omega)
      have c0 := HQ.out.c (p := i) (by omega)
      rw [hpi i (by omega) i (Nat.le_refl _)] at c0
      have hstep : eachTo f l p (i + 1) = ((f (eachTo f l p i).1 (p i)).1, fun t => if t = i then (f (eachTo f l p i).1 (p i)).2.1 else (eachTo f l p i).2.1 t, (f (eachTo f l p i).1 (p i)).2.2) := by
        show (if (eachTo f l p i).2.2 = 0 then _ else _) = _
        rw [if_pos HE.out]
      have hcall := HF.out i hlt wr HP.out HI.out HE.out
      obtain ⟨⟨zl, zn, ze⟩, hz⟩ : ∃ z, z = f (eachTo f l p i).1 (p i) := ⟨_, rfl⟩
      rw [← hz] at hcall hstep
      have HST := Lib.hid hstep
      generalize hpp : p i = pi at *
      clear hpi hstep hz HI
      go_wp2_with fail
      refine hcall.mono ?_
      rintro e w2 ⟨rfl, hl2, hb2⟩
      dsimp only at hl2
      have hq2 := HQ.out.kp hb2.kp
      have hP2 := HPK.out _ _ HP.out hb2
      have c1 := hq2.c (p := i) hlt
      have f1 := hq2.f i
      have hB2 := HB.out.trans hb2.bel
      have HQ3 := Lib.hid (hq2.set (p := i) hlt zn)
      have HP3 := Lib.hid (HPS.out _ i (.int .i64 zn) hP2)
      have HB3 := Lib.hid (hB2.setCell (p := ⟨qb, i, none⟩) hn0 (.int .i64 zn))
      by_cases hze : ze = 0
      · subst hze
        have HI3 := Lib.hid ((hl2 rfl).set hq2 ⟨.inl (by decide), by decide⟩ i (.int .i64 zn))
        clear hcall hl2 hb2 hq2 hP2 hB2 c0
        go_wp2_with fail
        go_roundw
        case measure => simp [intOf]; omega
        case rel => exact ⟨i + 1, by omega, by go_num, HP3.out, by rw [HST.out]; exact HQ3.out, by rw [HST.out]; rfl, by rw [HST.out]; exact HI3.out, HB3.out⟩
      · have hstop : ∀ d, (eachTo f l p (i + 1 + d)).2.2 = ze := fun d => by
          induction d with
          | zero => rw [Nat.add_zero, HST.out]
          | succ d ih =>
            show (if (eachTo f l p (i + 1 + d)).2.2 = 0 then _ else eachTo f l p (i + 1 + d)).2.2 = _
            rw [ih, if_neg hze]
            exact ih
        have h9 := hstop (9 - (i + 1))
        rw [show i + 1 + (9 - (i + 1)) = 9 by omega] at h9
        have hzb : (ze == 0) = false := beq_eq_false_iff_ne.2 hze
        have H9 := Lib.hid h9
        clear h9
        clear hcall hl2 hb2 hq2 hP2 hB2 c0 hstop
        go_wp2_with fail
        go_ret
        exact ⟨(by rw [H9.out]; first | done | rfl), fun h => absurd (H9.out.symm.trans h) hze, HP3.out, HB3.out⟩
    · obtain rfl : i = 9 := by omega
      have hltz : ¬ ((9 : Nat) : Int) < 9 := by decide
      go_wp2_with fail
      go_ret
      exact ⟨(by rw [HE.out]; first | done | rfl), fun _ => ⟨HQ.out, HI.out⟩, HP.out, HB.out⟩
set_option maxHeartbeats 8000000 in
theorem each4_2 (F : Nat) (eg : ∀ args w, (callFunc F args).run Try.prog w = .ok (.enter F args) w) (k0 k1 : Value) (n0 g b mb : Nat) (room : Int) (f : List Nd → Int → Zn) (l : List Nd) (p : Nat → Int) (qb : Nat) (P : World → Prop) (w : World) (hP0 : P w) (hPk : ∀ W W', P W → BelL n0 W W' → P W') (hPs : ∀ W j u, P W → P (W.setCell ⟨qb, j, none⟩ u))
    (hq : N4 w qb p) (hin : LIn n0 w g b mb l room) (hn0 : n0 ≤ qb)
    (hf : ∀ i, i < 4 → ∀ W, P W → LIn n0 W g b mb (eachTo f l p i).1 room → (eachTo f l p i).2.2 = 0 → Calls Try.prog F #[.int .i64 (p i), k0, k1] W (LpR (f (eachTo f l p i).1 (p i)) n0 g b mb room W)) :
    Calls Try.prog 85 #[.slice (some ⟨qb, 0, none⟩) 4 4, .func (.func F) #[] #[k0, k1]] w fun e w' => e = .returned (.int .i64 (eachTo f l p 4).2.2) ∧ ((eachTo f l p 4).2.2 = 0 → N4 w' qb (eachTo f l p 4).2.1 ∧ LIn n0 w' g b mb (eachTo f l p 4).1 room) ∧ P w' ∧ Below n0 w w' := by
  have HPK := Lib.hid hPk
  have HPS := Lib.hid hPs
  have HF := Lib.hid hf
  have HQ := Lib.hid hq
  have HI := Lib.hid hin
  have HP := Lib.hid hP0
  clear hPk hPs hf hq hin hP0
  go_enter Try.func85, Try.ntmps85
  go_wp2_with fail
  go_loopw [10] (fun u wr => ∃ i : Nat, i ≤ 4 ∧ u = .int .i64 i ∧ Hid (P wr) ∧ Hid (N4 wr qb (eachTo f l p i).2.1) ∧ Hid ((eachTo f l p i).2.2 = 0) ∧ Hid (LIn n0 wr g b mb (eachTo f l p i).1 room) ∧ Hid (Below n0 w wr)) (fun u _ => 4 - (intOf u).toNat)
  case atStart => exact ⟨0, by omega, rfl, HP.out, HQ.out, rfl, HI.out, Below.refl _ _⟩
  case round =>
    obtain ⟨i, hi, rfl, HP, HQ, HE, HI, HB⟩ := hrel
    by_cases hlt : i < 4
    · have hltz : (i : Int) < 4 := by omega
      have hpi : ∀ t, t ≤ 4 → ∀ s, t ≤ s → (eachTo f l p t).2.1 s = p s := fun t => by
        induction t with
        | zero => exact fun _ _ _ => rfl
        | succ t ih =>
          intro ht s hs
          unfold eachTo
          split
          · show (if s = t then _ else _) = _
            rw [if_neg (by omega)]
            exact ih (by omega) s (by omega)
          · exact ih (by omega) s (by omega)
      have c0 := HQ.out.c (p := i) (by omega)
      rw [hpi i (by omega) i (Nat.le_refl _)] at c0
      have hstep : eachTo f l p (i + 1) = ((f (eachTo f l p i).1 (p i)).1, fun t => if t = i then (f (eachTo f l p i).1 (p i)).2.1 else (eachTo f l p i).2.1 t, (f (eachTo f l p i).1 (p i)).2.2) := by
        show (if (eachTo f l p i).2.2 = 0 then _ else _) = _
        rw [if_pos HE.out]
      have hcall := HF.out i hlt wr HP.out HI.out HE.out
      obtain ⟨⟨zl, zn, ze⟩, hz⟩ : ∃ z, z = f (eachTo f l p i).1 (p i) := ⟨_, rfl⟩
      rw [← hz] at hcall hstep
      have HST := Lib.hid hstep
      generalize hpp : p i = pi at *
      clear hpi hstep hz HI
      go_wp2_with fail
      refine hcall.mono ?_
      rintro e w2 ⟨rfl, hl2, hb2⟩
      dsimp only at hl2
      have hq2 := HQ.out.kp hb2.kp
      have hP2 := HPK.out _ _ HP.out hb2
      have c1 := hq2.c (p := i) hlt
      have f1 := hq2.f i
      have hB2 := HB.out.trans hb2.bel
      have HQ3 := Lib.hid (hq2.set (p := i) hlt zn)
      have HP3 := Lib.hid (HPS.out _ i (.int .i64 zn) hP2)
      have HB3 := Lib.hid (hB2.setCell (p := ⟨qb, i, none⟩) hn0 (.int .i64 zn))
      by_cases hze : ze = 0
      · subst hze
        have HI3 := Lib.hid ((hl2 rfl).set hq2 ⟨.inl (by decide), by decide⟩ i (.int .i64 zn))
        clear hcall hl2 hb2 hq2 hP2 hB2 c0
        go_wp2_with fail
        go_roundw
        case measure => simp [intOf]; omega
        case rel => exact ⟨i + 1, by omega, by go_num, HP3.out, by rw [HST.out]; exact HQ3.out, by rw [HST.out]; rfl, by rw [HST.out]; exact HI3.out, HB3.out⟩
      · have hstop : ∀ d, (eachTo f l p (i + 1 + d)).2.2 = ze := fun d => by
          induction d with
          | zero => rw [Nat.add_zero, HST.out]
          | succ d ih =>
            show (if (eachTo f l p (i + 1 + d)).2.2 = 0 then _ else eachTo f l p (i + 1 + d)).2.2 = _
            rw [ih, if_neg hze]
            exact ih
        have h9 := hstop (4 - (i + 1))
        rw [show i + 1 + (4 - (i + 1)) = 4 by omega] at h9
        have hzb : (ze == 0) = false := beq_eq_false_iff_ne.2 hze
        have H9 := Lib.hid h9
        clear h9
        clear hcall hl2 hb2 hq2 hP2 hB2 c0 hstop
        go_wp2_with fail
        go_ret
        exact ⟨(by rw [H9.out]; first | done | rfl), fun h => absurd (H9.out.symm.trans h) hze, HP3.out, HB3.out⟩
    · obtain rfl : i = 4 := by omega
      have hltz : ¬ ((4 : Nat) : Int) < 4 := by decide
      go_wp2_with fail
      go_ret
      exact ⟨(by rw [HE.out]; first | done | rfl), fun _ => ⟨HQ.out, HI.out⟩, HP.out, HB.out⟩
set_option maxHeartbeats 8000000 in
theorem each4_3 (F : Nat) (eg : ∀ args w, (callFunc F args).run Try.prog w = .ok (.enter F args) w) (k0 k1 k2 : Value) (n0 g b mb : Nat) (room : Int) (f : List Nd → Int → Zn) (l : List Nd) (p : Nat → Int) (qb : Nat) (P : World → Prop) (w : World) (hP0 : P w) (hPk : ∀ W W', P W → BelL n0 W W' → P W') (hPs : ∀ W j u, P W → P (W.setCell ⟨qb, j, none⟩ u))
    (hq : N4 w qb p) (hin : LIn n0 w g b mb l room) (hn0 : n0 ≤ qb)
    (hf : ∀ i, i < 4 → ∀ W, P W → LIn n0 W g b mb (eachTo f l p i).1 room → (eachTo f l p i).2.2 = 0 → Calls Try.prog F #[.int .i64 (p i), k0, k1, k2] W (LpR (f (eachTo f l p i).1 (p i)) n0 g b mb room W)) :
    Calls Try.prog 85 #[.slice (some ⟨qb, 0, none⟩) 4 4, .func (.func F) #[] #[k0, k1, k2]] w fun e w' => e = .returned (.int .i64 (eachTo f l p 4).2.2) ∧ ((eachTo f l p 4).2.2 = 0 → N4 w' qb (eachTo f l p 4).2.1 ∧ LIn n0 w' g b mb (eachTo f l p 4).1 room) ∧ P w' ∧ Below n0 w w' := by
  have HPK := Lib.hid hPk
  have HPS := Lib.hid hPs
  have HF := Lib.hid hf
  have HQ := Lib.hid hq
  have HI := Lib.hid hin
  have HP := Lib.hid hP0
  clear hPk hPs hf hq hin hP0
  go_enter Try.func85, Try.ntmps85
  go_wp2_with fail
  go_loopw [10] (fun u wr => ∃ i : Nat, i ≤ 4 ∧ u = .int .i64 i ∧ Hid (P wr) ∧ Hid (N4 wr qb (eachTo f l p i).2.1) ∧ Hid ((eachTo f l p i).2.2 = 0) ∧ Hid (LIn n0 wr g b mb (eachTo f l p i).1 room) ∧ Hid (Below n0 w wr)) (fun u _ => 4 - (intOf u).toNat)
  case atStart => exact ⟨0, by omega, rfl, HP.out, HQ.out, rfl, HI.out, Below.refl _ _⟩
  case round =>
    obtain ⟨i, hi, rfl, HP, HQ, HE, HI, HB⟩ := hrel
    by_cases hlt : i < 4
    · have hltz : (i : Int) < 4 := by omega
      have hpi : ∀ t, t ≤ 4 → ∀ s, t ≤ s → (eachTo f l p t).2.1 s = p s := fun t => by
        induction t with
        | zero => exact fun _ _ _ => rfl
        | succ t ih =>
          intro ht s hs
          unfold eachTo
          split
          · show (if s = t then _ else _) = _
            rw [if_neg (by omega)]
            exact ih (by omega) s (by omega)
          · exact ih (by omega) s (by omega)
      have c0 := HQ.out.c (p := i) (by omega)
      rw [hpi i (by omega) i (Nat.le_refl _)] at c0
      have hstep : eachTo f l p (i + 1) = ((f (eachTo f l p i).1 (p i)).1, fun t => if t = i then (f (eachTo f l p i).1 (p i)).2.1 else (eachTo f l p i).2.1 t, (f (eachTo f l p i).1 (p i)).2.2) := by
        show (if (eachTo f l p i).2.2 = 0 then _ else _) = _
        rw [if_pos HE.out]
      have hcall := HF.out i hlt wr HP.out HI.out HE.out
      obtain ⟨⟨zl, zn, ze⟩, hz⟩ : ∃ z, z = f (eachTo f l p i).1 (p i) := ⟨_, rfl⟩
      rw [← hz] at hcall hstep
      have HST := Lib.hid hstep
      generalize hpp : p i = pi at *
      clear hpi hstep hz HI
      go_wp2_with fail
      refine hcall.mono ?_
      rintro e w2 ⟨rfl, hl2, hb2⟩
      dsimp only at hl2
      have hq2 := HQ.out.kp hb2.kp
      have hP2 := HPK.out _ _ HP.out hb2
      have c1 := hq2.c (p := i) hlt
      have f1 := hq2.f i
      have hB2 := HB.out.trans hb2.bel
      have HQ3 := Lib.hid (hq2.set (p := i) hlt zn)
      have HP3 := Lib.hid (HPS.out _ i (.int .i64 zn) hP2)
      have HB3 := Lib.hid (hB2.setCell (p := ⟨qb, i, none⟩) hn0 (.int .i64 zn))
      by_cases hze : ze = 0
      · subst hze
        have HI3 := Lib.hid ((hl2 rfl).set hq2 ⟨.inl (by decide), by decide⟩ i (.int .i64 zn))
        clear hcall hl2 hb2 hq2 hP2 hB2 c0
        go_wp2_with fail
        go_roundw
        case measure => simp [intOf]; omega
        case rel => exact ⟨i + 1, by omega, by go_num, HP3.out, by rw [HST.out]; exact HQ3.out, by rw [HST.out]; rfl, by rw [HST.out]; exact HI3.out, HB3.out⟩
      · have hstop : ∀ d, (eachTo f l p (i + 1 + d)).2.2 = ze := fun d => by
          induction d with
          | zero => rw [Nat.add_zero, HST.out]
          | succ d ih =>
            show (if (eachTo f l p (i + 1 + d)).2.2 = 0 then _ else eachTo f l p (i + 1 + d)).2.2 = _
            rw [ih, if_neg hze]
            exact ih
        have h9 := hstop (4 - (i + 1))
        rw [show i + 1 + (4 - (i + 1)) = 4 by omega] at h9
        have hzb : (ze == 0) = false := beq_eq_false_iff_ne.2 hze
        have H9 := Lib.hid h9
        clear h9
        clear hcall hl2 hb2 hq2 hP2 hB2 c0 hstop
        go_wp2_with fail
        go_ret
        exact ⟨(by rw [H9.out]; first | done | rfl), fun h => absurd (H9.out.symm.trans h) hze, HP3.out, HB3.out⟩
    · obtain rfl : i = 4 := by omega
      have hltz : ¬ ((4 : Nat) : Int) < 4 := by decide
      go_wp2_with fail
      go_ret
      exact ⟨(by rw [HE.out]; first | done | rfl), fun _ => ⟨HQ.out, HI.out⟩, HP.out, HB.out⟩
end Go.Proofs.Ytgjibpgfcbdpgaa
