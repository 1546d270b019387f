/-
  What Of and Next answer, whatever list is handed in: one word for both.
-/
import Derived.Test.YtafoleafhkadiaaEb
import Derived.Test.YtafoleafhkadiaaCh
import Derived.Test.YtafoleafhkadiaaCk
namespace Go.Proofs.Ytafoleafhkadiaa
open Go.RowKit Go.Sort
open Go.Maps (Keyed)

/-- an answer of a list and an error's number -/
def Ans (w : World) (r : Int × List (Int × Int)) (e : Ending) (w' : World) : Prop := ∃ v, e = .returned (.tuple #[v, .int .i64 r.1]) ∧ Reads w' v r.2 ∧ Below w.heap.size w w'

theorem Ans.nil {w w' : World} (n : Int) (hb : Below w.heap.size w w') : Ans w (n, []) (.returned (.tuple #[.slice none 0 0, .int .i64 n])) w' :=
  ⟨_, rfl, ⟨none, 0, rfl, Nat.le_refl _, Rd.nil _ _ _⟩, hb⟩
theorem Ans.after {w w1 w' : World} {r : Int × List (Int × Int)} {e : Ending} (h : Ans w1 r e w') (hb : Below w.heap.size w w1) : Ans w r e w' := by
  obtain ⟨v, he, hr, hb'⟩ := h
  exact ⟨v, he, hr, Qt.more hb hb.size hb'⟩

theorem of_ans (A : Option Addr) (l : List (Int × Int)) (c : Nat) (w : World) (hR : Rd w w.heap.size A l) (hl : l.length ≤ 1000000) (hc : l.length ≤ c) :
    Calls Try.prog 14 #[.slice A l.length c] w (Ans w (ofR l)) := by
  unfold ofR
  by_cases ho : (l.any fun p => !inB p) = true
  · rw [if_pos ho]
    refine (of_out A l c w hR hl hc ho).mono ?_
    rintro e w' ⟨rfl, hb⟩
    exact Ans.nil 2 hb
  · rw [if_neg ho]
    have ho' : (l.any fun p => !inB p) = false := by simpa using ho
    by_cases hs : 2000 < (setL l).length
    · rw [if_pos hs]
      refine (of_long A l c w hR hl hc ho' hs).mono ?_
      rintro e w' ⟨rfl, hb⟩
      exact Ans.nil 3 hb
    · rw [if_neg hs]
      refine (of_in A l c w hR hl hc ho' (by omega)).mono ?_
      rintro e w' ⟨g, rfl, hr, hb⟩
      exact ⟨_, rfl, ⟨_, _, rfl, Nat.le_refl _, hr.rd⟩, hb⟩

theorem lives_any (a : Bool) (n : Int) (w : World) : Calls Try.prog 34 #[.bool a, .int .i64 n] w fun e w' => e = .returned (.bool (livesB a n)) ∧ w = w' := by
  generalize hr : livesB a n = r
  have HR := Lib.hid hr
  clear hr
  go_enter Try.func34, Try.ntmps34
  go_wp2
  all_goals go_ret
  all_goals refine ⟨?_, rfl⟩
  all_goals (refine Qt.ret_bool ?_; rw [← HR.out]; simp_all [livesB])

/-- what has come out of the map so far -/
def Came (l : List (Int × Int)) (D : DataW Unit) (left : Lit → Bool) (out : List (Int × Int)) : Prop :=
  (∀ p ∈ out, aliveB l p = true) ∧ (∀ p : Int × Int, I64 p.1 → I64 p.2 → Maps.has D (kl p) = true → left (kl p) = false → aliveB l p = true → p ∈ out) ∧ ∀ z, left z = true → Maps.has D z = true

theorem came_end {l out : List (Int × Int)} {D : DataW Unit} {left : Lit → Bool} (h : Came l D left out) (hT : Tells D (evs l)) (hin : ∀ p ∈ l, inB p = true) (hleft : ∀ z, left z = false) : ∀ p, p ∈ out ↔ p ∈ nextL l := by
  intro p
  rw [mem_nextL]
  refine ⟨h.1 p, fun ha => ?_⟩
  have hc := alive_cand ha
  obtain ⟨q, hq, hn⟩ := (mem_cand l p).1 hc
  have hb := inB_bd (hin q hq)
  have i1 : I64 p.1 := ⟨by omega, by omega⟩
  have i2 : I64 p.2 := ⟨by omega, by omega⟩
  exact h.2.1 p i1 i2 (by rw [(hT.2 p i1 i2).1]; exact (evs_any l p).2 hc) (hleft _) ha
theorem came_start (l : List (Int × Int)) (D : DataW Unit) : Came l D (Maps.has D) [] :=
  ⟨fun p hp => absurd hp (by simp), fun p _ _ h1 h2 => (by rw [h1] at h2; cases h2), fun _ h => h⟩
theorem near_lives {l : List (Int × Int)} {D : DataW Unit} (hT : Tells D (evs l)) {x : Int × Int} {c : Bool × Int} {y : DataW Unit × List MemPlace} (i1 : I64 x.1) (i2 : I64 x.2) (hv : nearR (.agg #[.bool c.1, .int .i64 c.2]) = some y) (hat : ∀ zd, D.atKey (kl x) zd = y.1) :
    livesB c.1 c.2 = aliveB l x := by
  rw [nearR_mk] at hv
  injection hv with hv
  have e := hat zeroD
  rw [← hv] at e
  obtain ⟨ha, hc⟩ := near_found hT i1 i2 e
  rw [ha, hc, alive_evs, count_evs]
  rfl
theorem came_on {l out : List (Int × Int)} {D : DataW Unit} {left : Lit → Bool} {x : Int × Int} (h : Came l D left out) (i1 : I64 x.1) (i2 : I64 x.2) (b : Bool) (hb : aliveB l x = b) : Came l D (fun z => left z && !z.sameKey (kl x)) (if b then out ++ [x] else out) := by
  refine ⟨fun p hp => ?_, fun p j1 j2 hh hl ha => ?_, fun z hz => h.2.2 z (by simp only [Bool.and_eq_true] at hz; exact hz.1)⟩
  · cases b
    · exact h.1 p hp
    · simp only [if_true, List.mem_append, List.mem_singleton] at hp
      rcases hp with hp | rfl
      · exact h.1 p hp
      · exact hb
  · by_cases e : p = x
    · subst e
      rw [ha] at hb
      subst hb
      simp
    · have hne : (kl p).sameKey (kl x) = false := Maps.sameKey_ne fun e' => e (kl_inj j1 j2 i1 i2 e')
      simp only [hne, Bool.not_false, Bool.and_true] at hl
      have := h.2.1 p j1 j2 hh hl ha
      cases b <;> simp [this]

/-- the map's next entry, for the walk -/
theorem next_near {P : Program} (w : World) {ops : Array Oper} {rest : List Oper} {o : Oper} {a : Act} {Q : Exit → Act → World → Prop} (hg : o.guard = none) (it : Operand) (hop : o.op = Op.next it false) (hP : P = Try.prog) (b r n : Nat) (D : DataW Unit) (left : Lit → Bool) (cnt : Nat)
    (hit : a.eval it = .pointer (some ⟨r, 0, none⟩)) (h : w.ranges P 25 nearR b r n D left cnt)
    (hDone : cnt = 0 → (∀ kl, left kl = false) → wpList P ops Q rest (a.put o.dst (.tuple #[.bool false])) w)
    (hMore : ∀ (x : Int × Int) (c : Bool × Int) (y : DataW Unit × List MemPlace) (w' : World) (cnt' : Nat), I64 x.1 ∧ I64 x.2 ∧ nearR (.agg #[.bool c.1, .int .i64 c.2]) = some y ∧ (∀ zd, D.atKey (kl x) zd = y.1) → w'.ranges P 25 nearR b r n D (fun z => left z && !z.sameKey (kl x)) cnt' → cnt' < cnt →
      w.grownBy w' (some r) → w'.heap.size = w.heap.size → (Instr.entry (.pointer (some ⟨r, 0, none⟩))).run P w' = .ok (.tuple #[.agg #[.int .i64 x.1, .int .i64 x.2], .agg #[.bool c.1, .int .i64 c.2]]) w' → wpList P ops Q rest (a.put o.dst (.tuple #[.bool true, .agg #[.int .i64 x.1, .int .i64 x.2], .agg #[.bool c.1, .int .i64 c.2]])) w') :
    wpList P ops Q (o :: rest) a w := by
  subst hP
  refine wpList_next_ranges w hg it hop 25 cellKeyed nearR (fun x : Int × Int => .agg #[.int .i64 x.1, .int .i64 x.2]) (fun c : Bool × Int => .agg #[.bool c.1, .int .i64 c.2])
    (fun key kl' h => by obtain ⟨p, _, _, e, _⟩ := key_cell h; exact ⟨p, e⟩) (fun v y h => by obtain ⟨p, e, _⟩ := nearR_inv h; exact ⟨p, e⟩) b r n D left cnt hit h hDone ?_
  intro x c kl' y w' cnt' hkey hlk hv hat hrg hlt hgr hsz hen
  obtain ⟨p, i1, i2, e, rfl⟩ := key_cell hkey
  have : x = p := by
    obtain ⟨a, b⟩ := x
    obtain ⟨c, d⟩ := p
    simpa using e
  subst this
  exact hMore x c y w' cnt' ⟨i1, i2, hv, hat⟩ hrg hlt hgr hsz hen

/-- what stands beside an append's row stays -/
theorem came_push {w0 w w3 : World} {o1 o2 o3 : Obj} {b r n : Nat} {D : DataW Unit} {left : Lit → Bool} {cnt : Nat} {v v' : Value} {out : List (Int × Int)} {x : Int × Int} (hb : Below w0.heap.size w0 w) (hbr : b < r ∧ r < w.heap.size) (hw0 : w0.heap.size ≤ b) (h : w.ranges Try.prog 25 nearR b r n D left cnt)
    (hown : Own w (r + 1) 25 v out) (h3 : w3.ownsRow (r + 1) 25 2 v' (out.length + 1) (fl out ++ [.int .i64 x.1, .int .i64 x.2])) (hg : (((w.alloc o1).alloc o2).alloc o3).grownBy w3 v.ownBlock) :
    Own w3 (r + 1) 25 v' (out ++ [x]) ∧ w3.ranges Try.prog 25 nearR b r n D left cnt ∧ Below w0.heap.size w0 w3 ∧ r < w3.heap.size := by
  have hne : ∀ g, v.ownBlock = some g → r + 1 ≤ g := fun g e => (World.ownsRow.lt hown _ e).1
  have hsz := hb.size
  refine ⟨own_push h3, (((h.alloc _).alloc _).alloc _).kept hg (fun e => ?_) (fun e => ?_), (((hb.alloc hsz _).alloc (by simp; omega) _).alloc (by simp; omega) _).grown hg (by simp; omega) (fun k e => ?_), ?_⟩
  · have := hne _ e.symm; omega
  · have := hne _ e.symm; omega
  · have := hne _ e; omega
  · have := hg.size; simp at this; omega

theorem one_new2 {w : World} {o1 o2 : Obj} {T : Nat} {x y : Int} : ∀ j u, ([.int .i64 x, .int .i64 y] : List Value)[j]? = some u → (((w.alloc o1).alloc o2).alloc (.cells #[.int .i64 x, .int .i64 y] T)).cell? ((⟨w.heap.size + 1 + 1, 0, none⟩ : Addr).add j) = some u := by
  have h := @one_new ((w.alloc o1).alloc o2) T x y
  simpa using h

/-- nothing has come of this entry -/
theorem came_skip {w0 w : World} {o1 o2 : Obj} {b r n : Nat} {D : DataW Unit} {left : Lit → Bool} {cnt : Nat} {v : Value} {out : List (Int × Int)} (hb : Below w0.heap.size w0 w) (hbr : b < r ∧ r < w.heap.size) (h : w.ranges Try.prog 25 nearR b r n D left cnt)
    (hown : Own w (r + 1) 25 v out) :
    Own ((w.alloc o1).alloc o2) (r + 1) 25 v out ∧ ((w.alloc o1).alloc o2).ranges Try.prog 25 nearR b r n D left cnt ∧ Below w0.heap.size w0 ((w.alloc o1).alloc o2) ∧ r < ((w.alloc o1).alloc o2).heap.size :=
  have hsz := hb.size
  ⟨World.ownsRow.alloc (World.ownsRow.alloc hown _) _, (h.alloc _).alloc _, (hb.alloc hsz _).alloc (by simp; omega) _, by simp; omega⟩

set_option maxHeartbeats 2000000 in
set_option maxRecDepth 100000 in
theorem next_good (A : Option Addr) (l : List (Int × Int)) (c : Nat) (w : World) (hR : Rd w w.heap.size A l) (hl : l.length ≤ 1000000) (hc : l.length ≤ c) (hr : rightB l = true) :
    Calls Try.prog 30 #[.slice A l.length c] w (Ans w (ofR (nextL l))) := by
  obtain ⟨i0, hi, hz0, hz1, hz2⟩ := info_parts infoCell
  have h2000 := ((rightB_iff l).1 hr).1
  have HIN := Lib.hid ((rightB_iff l).1 hr).2.1
  have h1 := right_yes hR hl hc hr
  clear hr
  go_enter Try.func30, Try.ntmps30
  go_wp2_with (go_at_call 17; refine h1.mono ?_; rintro e w1 ⟨rfl, hb1⟩)
  have hR1 := hR.below hb1 (Nat.le_refl _)
  refine (around_any A l c w1 (hR1.more hb1.size) h2000 hc HIN.out).mono ?_
  rintro e w2 ⟨D, rfl, hown, HT, hb2⟩
  have HO := Lib.hid hown
  have HB2 : Hid (Below w.heap.size w w2) := Qt.more hb1 hb1.size hb2
  have hwb := hb1.size
  clear hown h1 hR hb1 hb2 hR1
  go_wp2_with (at_range; refine wpList_range_own _ rfl _ 72 rfl 25 75 cellKeyed Try.underlying72 nearR w1.heap.size _ D rfl HO.out ?_; intro w3 hrg3 hg3 hs3)
  have HB3 : Hid (Below w.heap.size w w3) := HB2.out.grown hg3 HB2.out.size (fun k e => by cases e)
  have hbr : w1.heap.size < w2.heap.size := HO.out.lt
  have hsz0 := HO.out.size_le
  obtain ⟨B, hB⟩ : ∃ B, B = w1.heap.size := ⟨_, rfl⟩
  obtain ⟨r, hr⟩ : ∃ r, r = w2.heap.size := ⟨_, rfl⟩
  rw [← hB] at hrg3 hbr hwb
  rw [← hr] at hrg3 hbr hs3
  have HRG := Lib.hid hrg3
  clear hrg3 hg3 HO hB HB2
  go_frame
  rw [← hr]
  clear hr
  have hr9 : 9 * l.length ≤ 18000 := by omega
  go_loopw [4] (fun v wr => ∃ (left : Lit → Bool) (cnt : Nat) (out : List (Int × Int)), Aside (wr.ranges Try.prog 25 nearR B r (9 * l.length) D left cnt ∧ Own wr (r + 1) 25 v out ∧ Came l D left out ∧ Below w.heap.size w wr) ∧ out.length + cnt ≤ 9 * l.length ∧ r < wr.heap.size) (fun _ wr => wr.rangeLeft B r)
  case atStart => exact ⟨_, _, [], ⟨HRG.out, World.ownsRow_nil _ _ _ _, came_start l D, HB3.out⟩, by simpa using hsz0, by omega⟩
  case round =>
    obtain ⟨left, cnt, out, HR, hlen, hrw⟩ := hrel
    go_wp2_with (at_next; refine next_near _ rfl _ rfl rfl B r _ D left cnt rfl HR.out.1 ?_ ?_; intro hc0 hl0; have HL := Lib.hid hl0; clear hl0; rotate_left; intro x c1 y w4 cnt4 hx hrg4 hlt4 hg4 hs4 hen; have HX := Lib.hid hx; have HRG4 := Lib.hid hrg4; have HG4 := Lib.hid hg4; have HS4 := Lib.hid hs4; clear hx hrg4 hg4 hs4; rotate_left)
    · obtain ⟨A', c', rfl, hoc, hord⟩ := HR.out.2.1.rd
      have hlen2 : out.length ≤ 1000000 := by omega
      have HE := Lib.hid (came_end HR.out.2.2.1 HT.out HIN.out HL.out)
      go_wp2_with (go_at_call 14; refine (of_ans A' out c' _ hord hlen2 hoc).mono ?_; rintro e w4 ⟨v4, rfl, hrd4, hb4⟩)
      go_ret2
      rw [← ofR_ext HE.out]
      exact ⟨v4, rfl, hrd4, Qt.more HR.out.2.2.2 HR.out.2.2.2.size hb4⟩
    · have HO4 : Hid (Own w4 (r + 1) 25 _ out) := World.ownsRow.kept HR.out.2.1 HG4.out (.inr fun e => by have := (World.ownsRow.lt HR.out.2.1 _ e).1; omega)
      have HB4 : Hid (Below w.heap.size w w4) := HR.out.2.2.2.grown HG4.out HR.out.2.2.2.size (fun k e => by injection e with e; omega)
      have hs5 : wr.heap.size ≤ w4.heap.size := Nat.le_of_eq HS4.out.symm
      have hl5 : out.length ≤ 18000 := by omega
      have HC4 := Lib.hid (came_on HR.out.2.2.1 HX.out.1 HX.out.2.1 _ (near_lives HT.out HX.out.1 HX.out.2.1 HX.out.2.2.1 HX.out.2.2.2).symm)
      cases hlv : livesB c1.1 c1.2
      all_goals
        rw [hlv] at HC4
        have hlu := lives_any c1.1 c1.2
        rw [hlv] at hlu
        have HLU := Lib.hid hlu
        clear hlv hlu
      · go_wp2_with (go_at_call 34; refine (HLU.out _).mono ?_; rintro e w5 ⟨rfl, rfl⟩)
        obtain ⟨p1, p2, p3, p4⟩ := came_skip (o1 := .cells #[Value.int IntKind.i64 x.fst, Value.int IntKind.i64 x.snd] 25) (o2 := .cells #[Value.bool c1.fst, Value.int IntKind.i64 c1.snd] 75) HB4.out ⟨hbr, by omega⟩ HRG4.out HO4.out
        go_roundw
        case measure => rw [p2.left_eq, HR.out.1.left_eq]; exact hlt4
        case rel => exact ⟨_, cnt4, out, ⟨p2, p1, HC4.out, p3⟩, by omega, p4⟩
      · go_wp2_with (first
          | (go_at_call 34; refine (HLU.out _).mono ?_; rintro e w5 ⟨rfl, rfl⟩)
          | (at_builtin; refine wpList_append_own _ rfl (.tmp 23) (.tmp 25) 23 rfl (r + 1) 25 i0 (.agg #[.int .i64 0, .int .i64 0]) 2 16 Try.underlying23 hi hz0 hz1 hz2 rfl (by decide) _ _ _ rfl (World.ownsRow.alloc (World.ownsRow.alloc (World.ownsRow.alloc HO4.out _) _) _) ⟨w4.heap.size + 1 + 1, 0, none⟩ 1 1 [.int .i64 x.1, .int .i64 x.2] rfl rfl one_new2 one_cell (by unfold maxLen; omega) (by omega) (by simp; omega) ?_; intro v5 w5 hown5 hgrow5 _; have HP := Lib.hid (came_push HB4.out ⟨hbr, (by omega)⟩ (by omega) HRG4.out HO4.out hown5 hgrow5); clear hown5 hgrow5))
        obtain ⟨p1, p2, p3, p4⟩ := HP.out
        go_roundw
        case measure => rw [p2.left_eq, HR.out.1.left_eq]; exact hlt4
        case rel => exact ⟨_, cnt4, out ++ [x], ⟨p2, p1, HC4.out, p3⟩, by simp; omega, p4⟩

theorem next_ans (A : Option Addr) (l : List (Int × Int)) (c : Nat) (w : World) (hR : Rd w w.heap.size A l) (hl : l.length ≤ 1000000) (hc : l.length ≤ c) :
    Calls Try.prog 30 #[.slice A l.length c] w (Ans w (nextR l)) := by
  cases hr : rightB l
  · rw [nextR_bad hr]
    have h1 := right_no hR hl hc hr
    clear hr
    go_enter Try.func30, Try.ntmps30
    go_wp2_with (go_at_call 17; refine h1.mono ?_; rintro e w1 ⟨rfl, hb1⟩)
    go_ret2
    exact Ans.nil 1 hb1
  · rw [nextR_yes hr]
    exact next_good A l c w hR hl hc hr

end Go.Proofs.Ytafoleafhkadiaa
