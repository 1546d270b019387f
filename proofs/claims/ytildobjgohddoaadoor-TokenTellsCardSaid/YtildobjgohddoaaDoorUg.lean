/-
  Layer 4's Text: what items are told as.
-/
import Derived.Test.YtildobjgohddoaaDoorUc
import Derived.Test.YtildobjgohddoaaDoorUb
import Derived.Test.YtildobjgohddoaaDoorNg
namespace Go.Proofs.YtildobjgohddoaaDoor
set_option linter.unusedVariables false
set_option linter.unusedSimpArgs false
open Go.RowKit Go.Sort

theorem Bld.below {w w' : World} {B b : Nat} {l : List UInt8} (h : Bld w B b l) (hb : Below w.heap.size w w') : Bld w' B b l := by
  have key : ∀ p, Lib.BuilderAtF 58 5 B b p (Lib.byteCells l) w → Lib.BuilderAtF 58 5 B b p (Lib.byteCells l) w' := by
    rintro p h1
    have hlt := h1.lt
    obtain ⟨hB, v, hbk, hown, hne⟩ := h1
    refine ⟨hB, v, (hb.block b hlt).trans hbk, hown.kept (row := none) ⟨hb.os, hb.tape, hb.output, hb.size, fun k hk _ => hb.block k hk⟩ ?_, hne⟩
    cases v.ownBlock with
    | none => exact .inl rfl
    | some g => exact .inr (fun e => by cases e)
  rcases h with h | h
  · exact .inl (key _ h)
  · exact .inr (key _ h)

/-- an item as a value -/
def aggE (x : Ite) : Value := .agg #[.int .u8 x.1.toNat, .int .i64 x.2.1, .int .i64 x.2.2]

set_option maxHeartbeats 1000000 in
set_option maxRecDepth 100000 in
theorem right_any (t : UInt8) (n p : Int) (w : World) :
    Calls Tryd.prog 24 #[.agg #[.int .u8 t.toNat, .int .i64 n, .int .i64 p]] w fun e w' => e = .returned (.bool (okE (t, n, p))) ∧ Below w.heap.size w w' := by
  have hb1 : Below w.heap.size w (w.alloc (.cells #[.int .u8 t.toNat, .int .i64 n, .int .i64 p] 37)) := (Below.refl _ _).alloc (Nat.le_refl _) _
  have hix : decide (0 ≤ Lib.indexByte (str [98, 111, 36]).data.toList ((t.toNat : Int)).toNat.toUInt8) = tagB t := by
    have e : ((t.toNat : Int)).toNat.toUInt8 = t := by simp
    rw [e, str_data, ← Lib.contains_iff_indexByte]
    unfold tagB
    simp only [List.contains_cons, List.contains_nil, Bool.or_false, Bool.or_assoc]
  generalize hr : okE (t, n, p) = r
  have HR := Lib.hid hr
  clear hr
  have hcall := fun W => Any.strings_IndexByte Tryd.lays137 (str [98, 111, 36]) ((t.toNat : Nat) : Int) W
  generalize Lib.indexByte (str [98, 111, 36]).data.toList ((t.toNat : Int)).toNat.toUInt8 = x at hix hcall
  have h3 : tagB t = false ∨ tagB t = true ∧ n < 1 ∨ tagB t = true ∧ 1 ≤ n ∧ n ≤ 1099511627776 ∨ tagB t = true ∧ 1 ≤ n ∧ 1099511627776 < n := by
    cases tagB t
    · exact .inl rfl
    · simp only [reduceCtorEq, true_and, false_or]
      omega
  have hok : r = (tagB t && decide (1 ≤ n) && decide (n ≤ 1099511627776)) := HR.out.symm
  rcases h3 with ht | ⟨ht, h1⟩ | ⟨ht, h1, h2⟩ | ⟨ht, h1, h2⟩
  · rw [ht] at hix hok
    have hx : ¬ 0 ≤ x := by simpa using hix
    obtain rfl : r = false := hok
    clear hix HR ht
    go_enter Tryd.func24, Tryd.ntmps24
    go_wp2_with (go_at_call 31; refine (hcall _).mono ?_; rintro e w' ⟨rfl, rfl⟩)
    all_goals go_ret
    all_goals exact ⟨by first | rfl | (simp [*]; done), hb1⟩
  · rw [ht] at hix hok
    have hx : 0 ≤ x := by simpa using hix
    have h1' : ¬ 1 ≤ n := by omega
    obtain rfl : r = false := by rw [hok, decide_eq_false h1']; rfl
    clear hix hok HR ht
    go_enter Tryd.func24, Tryd.ntmps24
    go_wp2_with (go_at_call 31; refine (hcall _).mono ?_; rintro e w' ⟨rfl, rfl⟩)
    all_goals go_ret
    all_goals exact ⟨by first | rfl | (simp [*]; done), hb1⟩
  · rw [ht] at hix hok
    have hx : 0 ≤ x := by simpa using hix
    obtain rfl : r = true := by rw [hok, decide_eq_true h1, decide_eq_true h2]; rfl
    clear hix hok HR ht
    go_enter Tryd.func24, Tryd.ntmps24
    go_wp2_with (go_at_call 31; refine (hcall _).mono ?_; rintro e w' ⟨rfl, rfl⟩)
    all_goals go_ret
    all_goals exact ⟨by first | rfl | (simp [*]; done), hb1⟩
  · rw [ht] at hix hok
    have hx : 0 ≤ x := by simpa using hix
    have h2' : ¬ n ≤ 1099511627776 := by omega
    obtain rfl : r = false := by rw [hok, decide_eq_true h1, decide_eq_false h2']; rfl
    clear hix hok HR ht
    go_enter Tryd.func24, Tryd.ntmps24
    go_wp2_with (go_at_call 31; refine (hcall _).mono ?_; rintro e w' ⟨rfl, rfl⟩)
    all_goals go_ret
    all_goals exact ⟨by first | rfl | (simp [*]; done), hb1⟩

theorem lt_of_heap {w : World} {k : Nat} {o : Obj} (h : w.heap[k]? = some o) : k < w.heap.size := by
  rcases Nat.lt_or_ge k w.heap.size with h1 | h1
  · exact h1
  · rw [Array.getElem?_eq_none h1] at h; cases h
/-- The box of an item stands behind a builder's call. -/
theorem box_kept {w w' : World} {b k : Nat} {cs : Array Value} (hk : Rest b w w') (h : w.heap[k]? = some (.cells cs 37 (0, 0))) (hne : k ≠ b) : w'.heap[k]? = some (.cells cs 37 (0, 0)) :=
  hk k _ h (fun e => hne (by injection e)) (fun c fz e => by
    simp only [Obj.cells.injEq] at e
    exact absurd e.2.1 (by decide))

def TextR (l : List Ite) (w : World) (e : Ending) (w' : World) : Prop := e = .returned (.string (str (textE l))) ∧ Below w.heap.size w w'

set_option maxHeartbeats 4000000 in
set_option maxRecDepth 100000 in
theorem tokText_any (A : Option Addr) (l : List Ite) (c : Nat) (w : World) (hR : NowE w A l) (hl : l.length * 24 ≤ 140737488351232) (hw : ∀ x ∈ l, I64 x.2.1) (hT : Tab w) :
    Calls Tryd.prog 15 #[.slice A l.length c] w (TextR l w) := by
  have HW := Lib.hid hw
  clear hw
  go_enter Tryd.func15, Tryd.ntmps15
  go_wp2
  go_loopw [8] (fun i wr => ∃ k : Nat, k ≤ l.length ∧ i = .int .i64 k ∧ Hid (Bld wr w.heap.size w.heap.size (textE (l.take k))) ∧ Below w.heap.size w wr) (fun i _ => l.length - (intOf i).toNat)
  case atStart => exact ⟨0, Nat.zero_le _, rfl, bld_new w, (Below.refl _ _).alloc (Nat.le_refl _) _⟩
  case round =>
    obtain ⟨k, hk, rfl, HB, hb⟩ := hrel
    by_cases hlt : k < l.length
    · have hltz : (k : Int) < (l.length : Int) := by omega
      obtain ⟨b0, off, rfl, hbB, hcell⟩ := hR.at_ (by omega)
      have a0 := Qt.keep hb (hcell k hlt).1
      have a1 := Qt.keep hb (hcell k hlt).2.1
      have a2 := Qt.keep hb (hcell k hlt).2.2
      have hsucc := textE_succ hlt
      have hx64 := HW.out (l.getD k noE) (getD_memE hlt)
      have htl := textE_take_len k hk
      obtain ⟨⟨t, n, p⟩, hx⟩ : ∃ x, x = l.getD k noE := ⟨_, rfl⟩
      rw [← hx] at a0 a1 a2 hsucc hx64
      simp only at a0 a1 a2 hx64
      have HS := Lib.hid hsucc
      have hbox : (wr.alloc (.cells #[.int .u8 t.toNat, .int .i64 n, .int .i64 p] 37)).heap[wr.heap.size]? = some (.cells #[.int .u8 t.toNat, .int .i64 n, .int .i64 p] 37 (0, 0)) := heap_alloc_new wr _
      have HB0 := Lib.hid (Bld.below HB.out (show Below wr.heap.size wr (wr.alloc (.cells #[.int .u8 t.toNat, .int .i64 n, .int .i64 p] 37)) from (Below.refl _ _).alloc (Nat.le_refl _) _))
      have hb0 : Below w.heap.size w (wr.alloc (.cells #[.int .u8 t.toNat, .int .i64 n, .int .i64 p] 37)) := hb.alloc hb.size _
      have hbne : wr.heap.size ≠ w.heap.size := by
        have := (show Bld wr w.heap.size w.heap.size (textE (l.take k)) from HB.out)
        rcases this with h | h
        · have := h.lt; omega
        · have := h.lt; omega
      clear hcell hx hsucc HB
      go_wp2_with fail
      refine (right_any t n p _).mono ?_
      rintro e w1 ⟨rfl, hb1⟩
      have hbx1 := (hb1.block wr.heap.size (by simp)).trans hbox
      have HB1 := Lib.hid (HB0.out.below hb1)
      have hbb : Below w.heap.size w w1 := hb0.trans (hb1.mono hb0.size)
      clear hbox HB0 hb0 hb1 a0 a1 a2
      cases hok : okE (t, n, p) with
      | false =>
        have he : textE (l.take (k + 1)) = textE (l.take k) := by rw [HS.out, itemE_no hok, List.append_nil]
        have HE := Lib.hid he
        clear hok he HS
        go_wp2
        go_roundw
        case measure => simp [intOf]; omega
        case rel => exact ⟨k + 1, by omega, by go_num, (by rw [HE.out]; exact HB1.out), hbb⟩
      | true =>
        have e0 : w1.cell? ⟨wr.heap.size, 0, none⟩ = some (.int .u8 t.toNat) := by rw [Lib.cell_of_heap hbx1]; rfl
        have e1 : w1.cell? ⟨wr.heap.size, 1, none⟩ = some (.int .i64 n) := by rw [Lib.cell_of_heap hbx1]; rfl
        by_cases h1 : n = 1
        · subst h1
          have he : textE (l.take (k + 1)) = textE (l.take k) ++ [t] := by rw [HS.out, itemE_one hok rfl]
          have HE := Lib.hid he
          clear hok he HS
          go_wp2_with fail
          refine (wbyte_any _ _ _ t _ HB1.out (by omega) hbb.size).mono ?_
          rintro e w2 ⟨rfl, hB2, hb2, _⟩
          have HB2 := Lib.hid hB2
          clear hB2 HB1 e0 e1 hbx1
          go_wp2
          go_roundw
          case measure => simp [intOf]; omega
          case rel => exact ⟨k + 1, by omega, by go_num, (by rw [HE.out]; exact HB2.out), hbb.trans hb2⟩
        · have he : textE (l.take (k + 1)) = textE (l.take k) ++ (txt n).data.toList ++ [t] := by rw [HS.out, itemE_many hok h1, List.append_assoc]; rfl
          have hts : (txt n).size ≤ 19 := txt_size n
          have h1b : (n == 1) = false := by simpa using h1
          have h1c : (n != 1) = true := by simpa using h1
          have hT1 : Tab w1 := hT.below hbb
          have HE := Lib.hid he
          clear hok he HS h1
          go_wp2_with fail
          refine (text_any n _ hx64 hT1).mono ?_
          rintro e w2 ⟨rfl, hb2⟩
          have hbx2 := (hb2.block wr.heap.size (lt_of_heap hbx1)).trans hbx1
          have HB2 := Lib.hid (HB1.out.below hb2)
          have hbb2 : Below w.heap.size w w2 := hbb.trans (hb2.mono hbb.size)
          generalize txt n = s at hts HE
          have hsl : s.data.toList.length = s.size := (size_list s).symm
          go_wp2_with fail
          refine (wtext_any _ _ _ s _ HB2.out (by omega) hbb2.size).mono ?_
          rintro e w3 ⟨rfl, hB3, hb3, hk3⟩
          have hbx3 := box_kept hk3 hbx2 hbne
          have f0 : w3.cell? ⟨wr.heap.size, 0, none⟩ = some (.int .u8 t.toNat) := by rw [Lib.cell_of_heap hbx3]; rfl
          have hbb3 : Below w.heap.size w w3 := hbb2.trans hb3
          clear e0 e1 hbx1 hbx2 HB1 HB2 hb2 hb3 hk3
          go_wp2_with fail
          refine (wbyte_any _ _ _ t _ hB3 (by rw [List.length_append]; omega) hbb3.size).mono ?_
          rintro e w4 ⟨rfl, hB4, hb4, _⟩
          have HB4 := Lib.hid hB4
          clear hB4 hB3 f0 hbx3
          go_wp2
          go_roundw
          case measure => simp [intOf]; omega
          case rel => exact ⟨k + 1, by omega, by go_num, (by rw [HE.out]; exact HB4.out), hbb3.trans hb4⟩
    · have hltz : ¬ (k : Int) < (l.length : Int) := by omega
      have hfull : l.take k = l := List.take_of_length_le (by omega)
      have hB : Bld wr w.heap.size w.heap.size (textE l) := by have := HB.out; rwa [hfull] at this
      clear HB hfull
      go_wp2_with fail
      refine (told_any _ _ _ _ hB hb.size).mono ?_
      rintro e w2 ⟨rfl, hb2⟩
      go_wp2
      go_ret
      exact ⟨rfl, hb.trans hb2⟩
end Go.Proofs.YtildobjgohddoaaDoor
