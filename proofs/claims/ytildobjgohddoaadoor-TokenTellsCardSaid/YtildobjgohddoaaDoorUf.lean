/-
  Layer 4's Lex: a text's items, up to its end.
-/
import Derived.Test.YtildobjgohddoaaDoorUe
namespace Go.Proofs.YtildobjgohddoaaDoor
set_option linter.unusedVariables false
set_option linter.unusedSimpArgs false
open Go.RowKit Go.Sort

def LexR (r : List Itm × Int × Nat) (w : World) (e : Ending) (w' : World) : Prop :=
  ∃ v, e = .returned (.tuple #[v, .int .i64 r.2.1, .int .i64 r.2.2]) ∧ ReadsE w' v (r.1.map up) ∧ Below w.heap.size w w'
theorem lexR_none {x : Int} {p : Nat} {w w' : World} (h : Below w.heap.size w w') : LexR ([], x, p) w (.returned (.tuple #[.slice none 0 0, .int .i64 x, .int .i64 p])) w' :=
  ⟨_, rfl, ⟨none, 0, rfl, Nat.le_refl _, nowE_nil _ _⟩, h⟩

/-- how much is left -/
def leftOf (w : World) (b : Nat) : Nat := match w.cell? ⟨b, 0, none⟩ with | some (.string s) => s.size | _ => 0
theorem leftOf_of {w : World} {b : Nat} {l : List UInt8} {p : Nat} {V : Value} (h : Rdr w b l p V) : leftOf w b = l.length := by unfold leftOf; rw [h.left]; exact str_size l

/-- What is known at the head of the loop. -/
structure AtHead (w wr : World) (n : Nat) (r : List Itm × Int × Nat) (l : List UInt8) (p : Nat) (V : Value) (acc : List Itm) : Prop where
  rdr : Rdr wr w.heap.size l p V
  own : OwnE wr w.heap.size V (acc.map up)
  bel : Below w.heap.size w wr
  len : l.length + p = n
  cnt : acc.length ≤ p
  lex : lexL l p acc = r
  plain : ∀ c q, l = c :: q → blankB c = false

theorem head_of {w wr w1 : World} {n : Nat} {r : List Itm × Int × Nat} {l : List UInt8} {p : Nat} {V : Value} {acc : List Itm} (hO : OwnE wr w.heap.size V (acc.map up)) (hR : Rdr wr w.heap.size l p V) (hb : Below w.heap.size w wr) (hl : l.length + p = n) (ha : acc.length ≤ p) (he : lexL l p acc = r)
    (hR1 : Rdr w1 w.heap.size (l.dropWhile blankB) (p + (l.takeWhile blankB).length) V) (hB : But w.heap.size wr w1) : AtHead w w1 n r (l.dropWhile blankB) (p + (l.takeWhile blankB).length) V acc := by
  have h3 := (drop_taken blankB l).2.2
  refine ⟨hR1, World.ownsRow.kept hO hB (own_ne hR hO), hb.trans (but_below hB (Nat.le_refl _) hb.size), by omega, by omega, ?_, fun c q hq => head_plain hq⟩
  rw [← he]
  exact (lex_blanks l p acc).symm

theorem one_pos (l : List UInt8) : (oneL l).1 = 0 → 1 ≤ (oneL l).2.2.2 ∧ (oneL l).2.2.2 ≤ l.length := by
  unfold oneL
  split
  · intro h; exact absurd h (by decide)
  · rename_i t q hq
    have h1 := List.length_drop (i := digs l) (l := l)
    rw [hq] at h1
    simp only [List.length_cons] at h1
    split
    · intro h; exact absurd h (by decide)
    · split
      · intro _; simp only; omega
      · split
        · intro h; exact absurd h (by decide)
        · intro _; simp only; omega

set_option maxHeartbeats 4000000 in
set_option maxRecDepth 100000 in
theorem lex_any (l : List UInt8) (w : World) (hl : l.length ≤ 9223372036854775807) :
    Calls Tryd.prog 12 #[.string (str l)] w (LexR (lexA l) w) := by
  have hsz := str_size l
  by_cases hlong : 20000 < l.length
  · have e : lexA l = ([], 3, 0) := by unfold lexA; rw [if_pos hlong]
    rw [e]
    have hz : (20000 : Int) < ((str l).size : Int) := by omega
    clear e
    generalize str l = s at hz hsz
    go_enter Tryd.func12, Tryd.ntmps12
    go_wp2
    go_ret3
    exact lexR_none (Below.refl _ _)
  · rw [lexA_short (by omega)]
    generalize hr : lexL l 0 [] = r
    have HR := Lib.hid hr
    clear hr
    have hz : ¬ (20000 : Int) < ((str l).size : Int) := by omega
    have hR0 : Rdr (w.alloc (.cells #[.string (str l), .int .i64 0, .slice none 0 0] 49)) w.heap.size l 0 (.slice none 0 0) := heap_alloc_new w _
    have hO0 : OwnE (w.alloc (.cells #[.string (str l), .int .i64 0, .slice none 0 0] 49)) w.heap.size (.slice none 0 0) (([] : List Itm).map up) := World.ownsRow_nil _ _ _ _
    have hb0 : Below w.heap.size w (w.alloc (.cells #[.string (str l), .int .i64 0, .slice none 0 0] 49)) := (Below.refl _ _).alloc (Nat.le_refl _) _
    have hpa := passAll_any w.heap.size l [32, 9, 10, 13] blankB 0 _ _ hR0 (by omega) (by decide) (by decide) mem_blank
    go_enter Tryd.func12, Tryd.ntmps12
    go_wp2_with fail
    refine hpa.mono ?_
    rintro e w1 ⟨rfl, hR1, hB1⟩
    have H1 := Lib.hid (head_of (n := l.length) hO0 hR0 hb0 rfl (Nat.le_refl _) HR.out hR1 hB1)
    clear hR0 hO0 hb0 hpa hR1 hB1 HR
    generalize str l = s at *
    go_wp2
    go_loopw [] (fun wr => ∃ l' p V acc, Hid (AtHead w wr l.length r l' p V acc)) (fun wr => leftOf wr w.heap.size)
    case atStart => exact ⟨_, _, _, _, H1⟩
    case round =>
      obtain ⟨l', p, V, acc, HH⟩ := hrel
      have H := HH.out
      have c0 := H.rdr.left
      have c1 := H.rdr.place
      have c2 := H.rdr.items
      have hm := leftOf_of H.rdr
      cases l' with
      | nil =>
        have he : r = ([], 31, p) := H.lex.symm
        subst he
        have hs0 : (str []).toList = [] := by rw [ByteArray.toList_eq]; rfl
        have hs1 : (str []).toList.isEmpty = true := by rw [hs0]; rfl
        have hbel := H.bel
        have k1 := Qt.cell_in c1
        clear H HH
        generalize str [] = s0 at hs0 hs1 c0
        go_wp2
        refine Qt.below_all (by kernel_rfl) (by kernel_rfl) ?_
        repeat (go_big_quiet_step (fail))
        refine wpQuiet_nil ?_
        intro w2 hb2
        clear k1
        go_wp2
        go_ret3
        exact lexR_none (hbel.trans (hb2.mono hbel.size))
      | cons c q =>
        have hs0 : ¬ (str (c :: q)).toList = [] := str_ne (by simp)
        have hs1 : (str (c :: q)).toList.isEmpty = false := by simpa using hs0
        have hpl := H.plain c q rfl
        have hbg := begins_any w.heap.size (c :: q) [33] p V wr H.rdr
        have hin : inS [33] (c :: q) = (c == 33) := by show [33].contains c = _; simp only [List.contains_cons, List.contains_nil, Bool.or_false]
        rw [hin] at hbg
        have k1 := Qt.cell_in c1
        have k2 := Qt.cell_in c2
        by_cases hc : c = 33
        · subst hc
          have he : r = (acc, 0, p) := by rw [← H.lex]; exact lex_end p acc
          subst he
          have hrd := H.own.reads
          have hbel := H.bel
          have hbg2 : Calls Tryd.prog 19 #[.pointer (some ⟨w.heap.size, 0, none⟩), .string (str [33])] wr fun e w' => e = .returned (.bool true) ∧ wr = w' := hbg
          clear H HH hbg hin
          generalize str (33 :: q) = s0 at hs0 hs1 c0
          go_wp2_with fail
          refine hbg2.mono ?_
          rintro e w1 ⟨rfl, rfl⟩
          go_wp2_with fail
          refine Qt.below_all (by kernel_rfl) (by kernel_rfl) ?_
          repeat (go_big_quiet_step (fail))
          refine wpQuiet_nil ?_
          intro w2 hb2
          clear k1 k2
          go_wp2
          go_ret3
          exact ⟨_, rfl, hrd.below hb2, hbel.trans (hb2.mono hbel.size)⟩
        · have hc2 : (c == 33) = false := by simpa using hc
          rw [hc2] at hbg
          have hit := item_any w.heap.size w.heap.size (c :: q) p V acc wr H.rdr H.own (Nat.le_refl _) H.bel.size (by have := H.len; omega) (by have := H.len; have := H.cnt; omega)
          have hone := lex_one (r := q) hpl hc p acc
          have hlex := H.lex
          have hbel := H.bel
          have hlen := H.len
          have hcnt := H.cnt
          have hpos := one_pos (c :: q)
          rw [hlex] at hone
          unfold ItemR at hit
          generalize oneL (c :: q) = o at *
          obtain ⟨o1, o2, o3, o4⟩ := o
          simp only at hit hone hpos
          clear H HH hin hlex
          by_cases ho : o1 = 0
          · subst ho
            rw [if_pos rfl] at hone
            generalize str (c :: q) = s0 at hs0 hs1 c0
            go_wp2_with fail
            refine hbg.mono ?_
            rintro e w1 ⟨rfl, rfl⟩
            go_wp2_with fail
            refine hit.mono ?_
            rintro e w2 ⟨rfl, hb2, hon⟩
            obtain ⟨V2, hR2, hO2⟩ := hon trivial
            have hpo := hpos trivial
            have hps := passAll_any w.heap.size ((c :: q).drop o4) [32, 9, 10, 13] blankB (p + o4) V2 w2 hR2 (by rw [List.length_drop]; omega) (by decide) (by decide) mem_blank
            go_wp2_with fail
            refine hps.mono ?_
            rintro e w3 ⟨rfl, hR3, hB3⟩
            have hd := List.length_drop (i := o4) (l := c :: q)
            have H3 := Lib.hid (head_of (n := l.length) hO2 hR2 (hbel.trans hb2) (by have := hpos trivial; omega) (by simp; have := hpos trivial; omega) hone.symm hR3 hB3)
            have hdw := (drop_taken blankB ((c :: q).drop o4)).2.2
            have hm3 := leftOf_of hR3
            clear hR2 hO2 hps hR3 hB3 hit hbg k1 k2
            go_wp2
            go_roundw
            case measure => have := hpos trivial; omega
            case rel => exact ⟨_, _, _, _, H3⟩
          · rw [if_neg ho] at hone
            subst hone
            generalize str (c :: q) = s0 at hs0 hs1 c0
            go_wp2_with fail
            refine hbg.mono ?_
            rintro e w1 ⟨rfl, rfl⟩
            go_wp2_with fail
            refine hit.mono ?_
            rintro e w2 ⟨rfl, hb2, _⟩
            have ho2 : (o1 == 0) = false := by simpa using ho
            have ho3 : (o1 != 0) = true := by simpa using ho
            clear hit hbg k1 k2
            go_wp2
            go_ret3
            exact lexR_none (hbel.trans hb2)
end Go.Proofs.YtildobjgohddoaaDoor
