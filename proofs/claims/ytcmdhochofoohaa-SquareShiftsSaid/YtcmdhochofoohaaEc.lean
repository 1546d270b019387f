/-
  What Of and Next answer, whatever list is handed in: one word for both.
-/
import Derived.Test.YtcmdhochofoohaaEb
import Derived.Test.YtcmdhochofoohaaB13
import Derived.Test.YtcmdhochofoohaaCk
namespace Go.Proofs.Ytcmdhochofoohaa.Cel
set_option linter.unusedVariables false
set_option linter.unusedSimpArgs false
open Go.RowKit Go.Sort
open Go.Maps (Keyed)

/-- an answer of a list and an error's number -/
def Ans (w : World) (r : Int × List (Int × Int)) (e : Ending) (w' : World) : Prop := ∃ v, e = .returned (.tuple #[v, .int .i64 r.1]) ∧ Reads w' v r.2 ∧ Below w.heap.size w w'

theorem Ans.nil {w w' : World} (n : Int) (hb : Below w.heap.size w w') : Ans w (n, []) (.returned (.tuple #[.slice none 0 0, .int .i64 n])) w' :=
  ⟨_, rfl, ⟨none, 0, rfl, Nat.le_refl _, Rd.nil _ _ _⟩, hb⟩
theorem Ans.after {w w1 w' : World} {r : Int × List (Int × Int)} {e : Ending} (h : Ans w1 r e w') (hb : Below w.heap.size w w1) : Ans w r e w' := by
  obtain ⟨v, he, hr, hb'⟩ := h
  exact ⟨v, he, hr, Qt.more hb hb.size hb'⟩

theorem of_ans (A : Option Addr) (l : List (Int × Int)) (c : Nat) (w : World) (hR : Rd w w.heap.size A l) (hl : l.length ≤ 1000000) (hc : l.length ≤ c) :
    Calls Try.prog 61 #[.slice A l.length c] w (Ans w (ofR l)) := by
  unfold ofR
  by_cases ho : (l.any fun p => !inB p) = true
  · rw [if_pos ho]
    refine (of_out A l c w hR hl hc ho).mono ?_
    rintro e w' ⟨rfl, hb⟩
    exact Ans.nil 2 hb
  · rw [if_neg ho]
    have ho' : (l.any fun p => !inB p) = false := by simpa using ho
    by_cases hs : 2000 < (setL l).length
    · rw [if_pos hs]
      refine (of_long A l c w hR hl hc ho' hs).mono ?_
      rintro e w' ⟨rfl, hb⟩
      exact Ans.nil 3 hb
    · rw [if_neg hs]
      refine (of_in A l c w hR hl hc ho' (by omega)).mono ?_
      rintro e w' ⟨g, rfl, hr, hb⟩
      exact ⟨_, rfl, ⟨_, _, rfl, Nat.le_refl _, hr.rd⟩, hb⟩

/-- what has come out of the map so far -/
def Came (l : List (Int × Int)) (D : DataW Unit) (left : Lit → Bool) (out : List (Int × Int)) : Prop :=
  (∀ p ∈ out, aliveB l p = true) ∧ (∀ p : Int × Int, I64 p.1 → I64 p.2 → Maps.has D (kl p) = true → left (kl p) = false → aliveB l p = true → p ∈ out) ∧ ∀ z, left z = true → Maps.has D z = true

theorem came_end {l out : List (Int × Int)} {D : DataW Unit} {left : Lit → Bool} (h : Came l D left out) (hT : Tells D (evs l)) (hin : ∀ p ∈ l, inB p = true) (hleft : ∀ z, left z = false) : ∀ p, p ∈ out ↔ p ∈ nextL l := by
  intro p
  rw [mem_nextL]
  refine ⟨h.1 p, fun ha => ?_⟩
  have hc := alive_cand ha
  obtain ⟨q, hq, hn⟩ := (mem_cand l p).1 hc
  have hb := inB_bd (hin q hq)
  have i1 : I64 p.1 := ⟨by omega, by omega⟩
  have i2 : I64 p.2 := ⟨by omega, by omega⟩
  exact h.2.1 p i1 i2 (by rw [(hT.2 p i1 i2).1]; exact (evs_any l p).2 hc) (hleft _) ha
theorem came_start (l : List (Int × Int)) (D : DataW Unit) : Came l D (Maps.has D) [] :=
  ⟨fun p hp => absurd hp (by simp), fun p _ _ h1 h2 => (by rw [h1] at h2; cases h2), fun _ h => h⟩
theorem near_lives {l : List (Int × Int)} {D : DataW Unit} (hT : Tells D (evs l)) {x : Int × Int} {c : Bool × Int} {y : DataW Unit × List MemPlace} (i1 : I64 x.1) (i2 : I64 x.2) (hv : nearR (.agg #[.bool c.1, .int .i64 c.2]) = some y) (hat : ∀ zd, D.atKey (kl x) zd = y.1) :
    livesB c.1 c.2 = aliveB l x := by
  rw [nearR_mk] at hv
  injection hv with hv
  have e := hat zeroD
  rw [← hv] at e
  obtain ⟨ha, hc⟩ := near_found hT i1 i2 e
  rw [ha, hc, alive_evs, count_evs]
  rfl
theorem came_on {l out : List (Int × Int)} {D : DataW Unit} {left : Lit → Bool} {x : Int × Int} (h : Came l D left out) (i1 : I64 x.1) (i2 : I64 x.2) (b : Bool) (hb : aliveB l x = b) : Came l D (fun z => left z && !z.sameKey (kl x)) (if b then out ++ [x] else out) := by
  refine ⟨fun p hp => ?_, fun p j1 j2 hh hl ha => ?_, fun z hz => h.2.2 z (by simp only [Bool.and_eq_true] at hz; exact hz.1)⟩
  · cases b
    · exact h.1 p hp
    · simp only [if_true, List.mem_append, List.mem_singleton] at hp
      rcases hp with hp | rfl
      · exact h.1 p hp
      · exact hb
  · by_cases e : p = x
    · subst e
      rw [ha] at hb
      subst hb
      simp
    · have hne : (kl p).sameKey (kl x) = false := Maps.sameKey_ne fun e' => e (kl_inj j1 j2 i1 i2 e')
      simp only [hne, Bool.not_false, Bool.and_true] at hl
      have := h.2.1 p j1 j2 hh hl ha
      cases b <;> simp [this]

/-- the map's next entry, for the walk -/
theorem next_near {P : Program} (w : World) {ops : Array Oper} {rest : List Oper} {o : Oper} {a : Act} {Q : Exit → Act → World → Prop} (hg : o.guard = none) (it : Operand) (hop : o.op = Op.next it false) (hP : P = Try.prog) (b r n : Nat) (D : DataW Unit) (left : Lit → Bool) (cnt : Nat)
    (hit : a.eval it = .pointer (some ⟨r, 0, none⟩)) (h : w.ranges P 63 nearR b r n D left cnt)
    (hDone : cnt = 0 → (∀ kl, left kl = false) → wpList P ops Q rest (a.put o.dst (.tuple #[.bool false])) w)
    (hMore : ∀ (x : Int × Int) (c : Bool × Int) (y : DataW Unit × List MemPlace) (w' : World) (cnt' : Nat), I64 x.1 ∧ I64 x.2 ∧ nearR (.agg #[.bool c.1, .int .i64 c.2]) = some y ∧ (∀ zd, D.atKey (kl x) zd = y.1) → w'.ranges P 63 nearR b r n D (fun z => left z && !z.sameKey (kl x)) cnt' → cnt' < cnt →
      w.grownBy w' (some r) → w'.heap.size = w.heap.size → (Instr.entry (.pointer (some ⟨r, 0, none⟩))).run P w' = .ok (.tuple #[.agg #[.int .i64 x.1, .int .i64 x.2], .agg #[.bool c.1, .int .i64 c.2]]) w' → wpList P ops Q rest (a.put o.dst (.tuple #[.bool true, .agg #[.int .i64 x.1, .int .i64 x.2], .agg #[.bool c.1, .int .i64 c.2]])) w') :
    wpList P ops Q (o :: rest) a w := by
  subst hP
  refine wpList_next_ranges w hg it hop 63 cellKeyed nearR (fun x : Int × Int => .agg #[.int .i64 x.1, .int .i64 x.2]) (fun c : Bool × Int => .agg #[.bool c.1, .int .i64 c.2])
    (fun key kl' h => by obtain ⟨p, _, _, e, _⟩ := key_cell h; exact ⟨p, e⟩) (fun v y h => by obtain ⟨p, e, _⟩ := nearR_inv h; exact ⟨p, e⟩) b r n D left cnt hit h hDone ?_
  intro x c kl' y w' cnt' hkey hlk hv hat hrg hlt hgr hsz hen
  obtain ⟨p, i1, i2, e, rfl⟩ := key_cell hkey
  have : x = p := by
    obtain ⟨a, b⟩ := x
    obtain ⟨c, d⟩ := p
    simpa using e
  subst this
  exact hMore x c y w' cnt' ⟨i1, i2, hv, hat⟩ hrg hlt hgr hsz hen

/-- what stands beside an append's row stays -/
theorem came_push {w0 w w3 : World} {o1 o2 o3 : Obj} {b r n : Nat} {D : DataW Unit} {left : Lit → Bool} {cnt : Nat} {v v' : Value} {out : List (Int × Int)} {x : Int × Int} (hb : Below w0.heap.size w0 w) (hbr : b < r ∧ r < w.heap.size) (hw0 : w0.heap.size ≤ b) (h : w.ranges Try.prog 63 nearR b r n D left cnt)
    (hown : Own w (r + 1) 63 v out) (h3 : w3.ownsRow (r + 1) 63 2 v' (out.length + 1) (fl out ++ [.int .i64 x.1, .int .i64 x.2])) (hg : (((w.alloc o1).alloc o2).alloc o3).grownBy w3 v.ownBlock) :
    Own w3 (r + 1) 63 v' (out ++ [x]) ∧ w3.ranges Try.prog 63 nearR b r n D left cnt ∧ Below w0.heap.size w0 w3 ∧ r < w3.heap.size := by
  have hne : ∀ g, v.ownBlock = some g → r + 1 ≤ g := fun g e => (World.ownsRow.lt hown _ e).1
  have hsz := hb.size
  refine ⟨own_push h3, (((h.alloc _).alloc _).alloc _).kept hg (fun e => ?_) (fun e => ?_), (((hb.alloc hsz _).alloc (by simp; omega) _).alloc (by simp; omega) _).grown hg (by simp; omega) (fun k e => ?_), ?_⟩
  · have := hne _ e.symm; omega
  · have := hne _ e.symm; omega
  · have := hne _ e; omega
  · have := hg.size; simp at this; omega

theorem one_new2 {w : World} {o1 o2 : Obj} {T : Nat} {x y : Int} : ∀ j u, ([.int .i64 x, .int .i64 y] : List Value)[j]? = some u → (((w.alloc o1).alloc o2).alloc (.cells #[.int .i64 x, .int .i64 y] T)).cell? ((⟨w.heap.size + 1 + 1, 0, none⟩ : Addr).add j) = some u := by
  have h := @one_new ((w.alloc o1).alloc o2) T x y
  simpa using h

/-- nothing has come of this entry -/
theorem came_skip {w0 w : World} {o1 o2 : Obj} {b r n : Nat} {D : DataW Unit} {left : Lit → Bool} {cnt : Nat} {v : Value} {out : List (Int × Int)} (hb : Below w0.heap.size w0 w) (hbr : b < r ∧ r < w.heap.size) (h : w.ranges Try.prog 63 nearR b r n D left cnt)
    (hown : Own w (r + 1) 63 v out) :
    Own ((w.alloc o1).alloc o2) (r + 1) 63 v out ∧ ((w.alloc o1).alloc o2).ranges Try.prog 63 nearR b r n D left cnt ∧ Below w0.heap.size w0 ((w.alloc o1).alloc o2) ∧ r < ((w.alloc o1).alloc o2).heap.size :=
  have hsz := hb.size
  ⟨World.ownsRow.alloc (World.ownsRow.alloc hown _) _, (h.alloc _).alloc _, (hb.alloc hsz _).alloc (by simp; omega) _, by simp; omega⟩

end Go.Proofs.Ytcmdhochofoohaa.Cel
