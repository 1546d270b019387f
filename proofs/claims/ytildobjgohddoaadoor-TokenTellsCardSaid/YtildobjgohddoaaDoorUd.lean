/-
  The reader of items: what its block holds; what of a text it passes over.
-/
import Derived.Test.YtildobjgohddoaaDoorUb
import Derived.Test.YtildobjgohddoaaDoorQs
import Derived.Test.YtildobjgohddoaaDoorQm
import Derived.Test.YtildobjgohddoaaDoorQu
import Derived.Lib.SlTrimSet
namespace Go.Proofs.YtildobjgohddoaaDoor
set_option linter.unusedVariables false
set_option linter.unusedSimpArgs false
open Go.RowKit Go.Sort

/-- The reader at block b: what is left, from which place on, the items. -/
def Rdr (w : World) (b : Nat) (l : List UInt8) (p : Nat) (V : Value) : Prop := w.heap[b]? = some (.cells #[.string (str l), .int .i64 p, V] 49 (0, 0))
theorem Rdr.lt {w : World} {b : Nat} {l : List UInt8} {p : Nat} {V : Value} (h : Rdr w b l p V) : b < w.heap.size := by
  rcases Nat.lt_or_ge b w.heap.size with h' | h'
  · exact h'
  · unfold Rdr at h; simp [Array.getElem?_eq_none h'] at h
theorem Rdr.left {w : World} {b : Nat} {l : List UInt8} {p : Nat} {V : Value} (h : Rdr w b l p V) : w.cell? ⟨b, 0, none⟩ = some (.string (str l)) := by rw [Lib.cell_of_heap h]; rfl
theorem Rdr.place {w : World} {b : Nat} {l : List UInt8} {p : Nat} {V : Value} (h : Rdr w b l p V) : w.cell? ⟨b, 1, none⟩ = some (.int .i64 p) := by rw [Lib.cell_of_heap h]; rfl
theorem Rdr.items {w : World} {b : Nat} {l : List UInt8} {p : Nat} {V : Value} (h : Rdr w b l p V) : w.cell? ⟨b, 2, none⟩ = some V := by rw [Lib.cell_of_heap h]; rfl
theorem Rdr.free {w : World} {b : Nat} {l : List UInt8} {p : Nat} {V : Value} (h : Rdr w b l p V) (j : Nat) : w.frozen? ⟨b, j, none⟩ = false := Lib.frozen_of_heap h j
theorem Rdr.below {w w' : World} {b : Nat} {l : List UInt8} {p : Nat} {V : Value} (h : Rdr w b l p V) (hb : Below w.heap.size w w') : Rdr w' b l p V := (hb.block b h.lt).trans h
theorem Rdr.set0 {w : World} {b : Nat} {l m : List UInt8} {p : Nat} {V : Value} (h : Rdr w b l p V) : Rdr (w.setCell ⟨b, 0, none⟩ (.string (str m))) b m p V := by
  unfold Rdr at *
  simp [World.setCell, Array.getElem?_modify, h]
theorem Rdr.set1 {w : World} {b : Nat} {l : List UInt8} {p q : Nat} {V : Value} (h : Rdr w b l p V) : Rdr (w.setCell ⟨b, 1, none⟩ (.int .i64 q)) b l q V := by
  unfold Rdr at *
  simp [World.setCell, Array.getElem?_modify, h]
theorem Rdr.set2 {w : World} {b : Nat} {l : List UInt8} {p : Nat} {V U : Value} (h : Rdr w b l p V) : Rdr (w.setCell ⟨b, 2, none⟩ U) b l p U := by
  unfold Rdr at *
  simp [World.setCell, Array.getElem?_modify, h]
/-- Everything but block b stands. -/
abbrev But (b : Nat) (w w' : World) : Prop := w.grownBy w' (some b)
theorem But.of {b : Nat} {w w' : World} (h : Below w.heap.size w w') : But b w w' := ⟨h.os, h.tape, h.output, h.size, fun k hk _ => h.block k hk⟩
theorem But.trans {b : Nat} {w w1 w2 : World} (h : But b w w1) (k : But b w1 w2) : But b w w2 :=
  ⟨k.os.trans h.os, k.tape.trans h.tape, k.output.trans h.output, Nat.le_trans h.size k.size, fun i hi hne => (k.block i (Nat.lt_of_lt_of_le hi h.size) hne).trans (h.block i hi hne)⟩
theorem But.setCell {b : Nat} {w : World} (j : Nat) (u : Value) : But b w (w.setCell ⟨b, j, none⟩ u) := by
  have h := (Below.refl b w).setCell (p := ⟨b, j, none⟩) (Nat.le_refl _) u
  refine ⟨h.os, h.tape, h.output, h.size, fun k hk hne => ?_⟩
  have hkb : k ≠ b := fun e => hne (by rw [e])
  simp [World.setCell, Array.getElem?_modify, Ne.symm hkb]

theorem But.drew {b : Nat} {w w' : World} (h : But b w w') : But b w w'.drew := ⟨h.os, h.tape, h.output, h.size, h.block⟩
theorem passed {w : World} {b : Nat} {l m : List UInt8} {p n : Nat} {V : Value} (h : Rdr w b l p V) :
    Rdr ((w.setCell ⟨b, 0, none⟩ (.string (str m))).setCell ⟨b, 1, none⟩ (.int .i64 ((p : Int) + (n : Int)))).drew b m (p + n) V ∧ But b w ((w.setCell ⟨b, 0, none⟩ (.string (str m))).setCell ⟨b, 1, none⟩ (.int .i64 ((p : Int) + (n : Int)))).drew := by
  have h1 := (h.set0 (m := m)).set1 (q := p + n)
  have e : ((p + n : Nat) : Int) = (p : Int) + (n : Int) := by omega
  rw [e] at h1
  exact ⟨h1, ((But.setCell 0 _).trans (But.setCell 1 _)).drew⟩

theorem ix_of (c : UInt8) (s : List UInt8) : decide (0 ≤ Lib.indexByte s c) = s.contains c := (Lib.contains_iff_indexByte s c).symm
/-- whether a text begins with one of some bytes -/
def inS (s l : List UInt8) : Bool := match l with | [] => false | c :: _ => s.contains c

theorem begins_any (b : Nat) (l s : List UInt8) (p : Nat) (V : Value) (w : World) (h : Rdr w b l p V) :
    Calls Tryd.prog 19 #[.pointer (some ⟨b, 0, none⟩), .string (str s)] w fun e w' => e = .returned (.bool (inS s l)) ∧ w = w' := by
  have c0 := h.left
  cases l with
  | nil =>
    have hs0 : (str []).toList = [] := by rw [ByteArray.toList_eq]; rfl
    have hs1 : (str []).toList.isEmpty = true := by rw [hs0]; rfl
    go_enter Tryd.func19, Tryd.ntmps19
    go_wp2
    go_ret
    exact ⟨rfl, rfl⟩
  | cons c r =>
    have hs0 : ¬ (str (c :: r)).toList = [] := by rw [ByteArray.toList_eq]; show ¬ c :: r = []; simp
    have hs1 : (str (c :: r)).toList.isEmpty = false := by simpa using hs0
    have hsz : 0 < (str (c :: r)).size := by rw [str_size]; simp
    have hidx : (str (c :: r))[0]'hsz = c := rfl
    have hix := ix_of c s
    have e : inS s (c :: r) = s.contains c := rfl
    rw [e]
    generalize s.contains c = q at hix ⊢
    generalize str (c :: r) = t at hs0 hs1 hsz hidx c0
    clear h e
    go_enter Tryd.func19, Tryd.ntmps19
    go_wp2_with (go_at_call 31; refine (Any.strings_IndexByte Tryd.lays137 _ _ _).mono ?_; rintro e w' ⟨rfl, rfl⟩)
    all_goals go_ret
    exact ⟨congrArg (fun q => Ending.returned (.bool q)) hix, rfl⟩

set_option maxHeartbeats 2000000 in
set_option maxRecDepth 100000 in
theorem pass_any (b : Nat) (l : List UInt8) (n p : Nat) (V : Value) (w : World) (h : Rdr w b l p V) (hn : n ≤ l.length) (hp : l.length + p ≤ 1000000) :
    Calls Tryd.prog 29 #[.pointer (some ⟨b, 0, none⟩), .int .i64 n] w fun e w' => e = .returned (.string (str (l.take n))) ∧ Rdr w' b (l.drop n) (p + n) V ∧ But b w w' := by
  have c0 := h.left
  have c1 := h.place
  have hsz : (str l).size = l.length := str_size l
  have k0 := Qt.cell_in c0
  have k1 := Qt.cell_in c1
  go_enter Tryd.func29, Tryd.ntmps29
  go_wp2
  refine Qt.region_tree (.pure 0 <| .pure 1 <| .pure 2 <| .pure 3 <| .pure 4 <| .pure 6 <| .pure 8 <| .pure 9 <| .pure 10 <| .pure 12 <| .two 5 11 (.pure 7 <| .only 11 <| .pure 13 <| .only 14 <| .only 15 <| .only 16 <| .only 17 <| .only 18 <| .only 19 .done) (.pure 13 <| .only 5 <| .pure 7 <| .only 14 <| .only 15 <| .only 16 <| .only 17 <| .only 18 <| .only 19 .done)) (by kernel_rfl) (by kernel_rfl) (by kernel_rfl) (by rfl) ?_
  refine ⟨_, some 12, .pointer (some ⟨b, 0, none⟩), rfl, rfl, ⟨rfl, fun _ => by first | rfl | (simp only [execOp]; go_simp)⟩, ?_⟩
  simp only [Act.put, List.setIfInBounds_toArray, List.set_cons_succ, List.set_cons_zero]
  refine ⟨_, some 13, .pointer (some ⟨b, 0, none⟩), rfl, rfl, ⟨rfl, fun _ => by first | rfl | (simp only [execOp]; go_simp)⟩, ?_⟩
  simp only [Act.put, List.setIfInBounds_toArray, List.set_cons_succ, List.set_cons_zero]
  refine ⟨_, some 14, .pointer (some ⟨b, 0, none⟩), rfl, rfl, ⟨rfl, fun _ => by first | rfl | (simp only [execOp]; go_simp)⟩, ?_⟩
  simp only [Act.put, List.setIfInBounds_toArray, List.set_cons_succ, List.set_cons_zero]
  refine ⟨_, some 15, .pointer (some ⟨b, 0, none⟩), rfl, rfl, ⟨rfl, fun _ => by first | rfl | (simp only [execOp]; go_simp)⟩, ?_⟩
  simp only [Act.put, List.setIfInBounds_toArray, List.set_cons_succ, List.set_cons_zero]
  refine ⟨_, some 16, .pointer (some ⟨b, 0, none⟩), rfl, rfl, ⟨rfl, fun _ => by first | rfl | (simp only [execOp]; go_simp)⟩, ?_⟩
  simp only [Act.put, List.setIfInBounds_toArray, List.set_cons_succ, List.set_cons_zero]
  refine ⟨_, some 18, .int .i64 n, rfl, rfl, ⟨rfl, fun _ => by first | rfl | (simp only [execOp]; go_simp)⟩, ?_⟩
  simp only [Act.put, List.setIfInBounds_toArray, List.set_cons_succ, List.set_cons_zero]
  refine ⟨_, some 20, .pointer (some ⟨b, 0, none⟩), rfl, rfl, ⟨rfl, fun _ => by first | rfl | (simp only [execOp]; go_simp)⟩, ?_⟩
  simp only [Act.put, List.setIfInBounds_toArray, List.set_cons_succ, List.set_cons_zero]
  refine ⟨_, some 21, .pointer (some ⟨b, 0, none⟩), rfl, rfl, ⟨rfl, fun _ => by first | rfl | (simp only [execOp]; go_simp)⟩, ?_⟩
  simp only [Act.put, List.setIfInBounds_toArray, List.set_cons_succ, List.set_cons_zero]
  refine ⟨_, some 22, .pointer (some ⟨b, 1, none⟩), rfl, rfl, ⟨rfl, fun _ => by first | rfl | (simp only [execOp]; go_simp)⟩, ?_⟩
  simp only [Act.put, List.setIfInBounds_toArray, List.set_cons_succ, List.set_cons_zero]
  refine ⟨_, some 24, .int .i64 n, rfl, rfl, ⟨rfl, fun _ => by first | rfl | (simp only [execOp]; go_simp)⟩, ?_⟩
  simp only [Act.put, List.setIfInBounds_toArray, List.set_cons_succ, List.set_cons_zero]
  have f0 : w.frozen? ⟨b, 0, none⟩ = false := h.free 0
  have f1 : w.frozen? ⟨b, 1, none⟩ = false := h.free 1
  have HP := Lib.hid (passed (m := l.drop n) (n := n) h)
  have HT := Lib.hid (str_take l n)
  constructor
  · refine ⟨_, rfl, ?_⟩
    go_wp2_with fail
    refine ⟨rfl, ?_⟩
    refine ⟨_, some 19, .string (str (l.drop n)), rfl, rfl, ⟨rfl, by rw [← str_drop l n, ← hsz]; exact exec_str_from (x := .tmp 17) (y := .tmp 18) rfl rfl rfl (by omega) (by omega)⟩, ?_⟩
    simp only [Act.put, List.setIfInBounds_toArray, List.set_cons_succ, List.set_cons_zero]
    refine ⟨_, rfl, ?_⟩
    go_wp2_with fail
    refine ⟨rfl, ?_⟩
    refine ⟨_, some 25, .int .i64 ((p + n : Nat) : Int), rfl, rfl, ⟨rfl, exec_addi (x := .tmp 23) (y := .tmp 24) rfl rfl rfl (by omega)⟩, ?_⟩
    simp only [Act.put, List.setIfInBounds_toArray, List.set_cons_succ, List.set_cons_zero]
    refine ⟨_, rfl, ?_⟩
    go_wp2_with fail
    refine ⟨rfl, ?_⟩
    refine ⟨_, rfl, ?_⟩
    go_wp2_with fail
    refine ⟨rfl, ?_⟩
    refine ⟨_, rfl, ?_⟩
    go_wp2_with fail
    refine ⟨rfl, ?_⟩
    refine ⟨_, rfl, ?_⟩
    go_wp2_with fail
    refine ⟨rfl, ?_⟩
    refine ⟨_, rfl, ?_⟩
    go_wp2_with fail
    refine ⟨rfl, ?_⟩
    refine ⟨_, rfl, ?_⟩
    go_wp2_with fail
    refine ⟨rfl, ?_⟩
    simp only [Qt.treeW]
    go_wp2
    go_ret
    exact ⟨by rw [HT.out]; rfl, HP.out.1, HP.out.2⟩
  · refine ⟨_, rfl, ?_⟩
    go_wp2_with fail
    refine ⟨rfl, ?_⟩
    refine ⟨_, some 25, .int .i64 ((p + n : Nat) : Int), rfl, rfl, ⟨rfl, exec_addi (x := .tmp 23) (y := .tmp 24) rfl rfl rfl (by omega)⟩, ?_⟩
    simp only [Act.put, List.setIfInBounds_toArray, List.set_cons_succ, List.set_cons_zero]
    refine ⟨_, rfl, ?_⟩
    go_wp2_with fail
    refine ⟨rfl, ?_⟩
    refine ⟨_, some 19, .string (str (l.drop n)), rfl, rfl, ⟨rfl, by rw [← str_drop l n, ← hsz]; exact exec_str_from (x := .tmp 17) (y := .tmp 18) rfl rfl rfl (by omega) (by omega)⟩, ?_⟩
    simp only [Act.put, List.setIfInBounds_toArray, List.set_cons_succ, List.set_cons_zero]
    refine ⟨_, rfl, ?_⟩
    go_wp2_with fail
    refine ⟨rfl, ?_⟩
    refine ⟨_, rfl, ?_⟩
    go_wp2_with fail
    refine ⟨rfl, ?_⟩
    refine ⟨_, rfl, ?_⟩
    go_wp2_with fail
    refine ⟨rfl, ?_⟩
    refine ⟨_, rfl, ?_⟩
    go_wp2_with fail
    refine ⟨rfl, ?_⟩
    refine ⟨_, rfl, ?_⟩
    go_wp2_with fail
    refine ⟨rfl, ?_⟩
    refine ⟨_, rfl, ?_⟩
    go_wp2_with fail
    refine ⟨rfl, ?_⟩
    simp only [Qt.treeW]
    go_wp2
    go_ret
    exact ⟨by rw [HT.out]; rfl, HP.out.1, HP.out.2⟩

theorem mem_blank (c : UInt8) : [32, 9, 10, 13].contains c = blankB c := by unfold blankB; simp only [List.contains_cons, List.contains_nil, Bool.or_false, Bool.or_assoc]
theorem mem_dig (c : UInt8) : [48, 49, 50, 51, 52, 53, 54, 55, 56, 57].contains c = digB c := by
  rw [Bool.eq_iff_iff, digB_iff]
  simp only [List.contains_cons, List.contains_nil, Bool.or_eq_true, beq_iff_eq, ← UInt8.toNat_inj, Bool.or_false]
  have e : ∀ k : Nat, k < 256 → (UInt8.ofNat k).toNat = k := fun k h => by simp; omega
  constructor
  · intro h
    have : c.toNat = 48 ∨ c.toNat = 49 ∨ c.toNat = 50 ∨ c.toNat = 51 ∨ c.toNat = 52 ∨ c.toNat = 53 ∨ c.toNat = 54 ∨ c.toNat = 55 ∨ c.toNat = 56 ∨ c.toNat = 57 := h
    omega
  · intro h
    show c.toNat = 48 ∨ c.toNat = 49 ∨ c.toNat = 50 ∨ c.toNat = 51 ∨ c.toNat = 52 ∨ c.toNat = 53 ∨ c.toNat = 54 ∨ c.toNat = 55 ∨ c.toNat = 56 ∨ c.toNat = 57
    omega

theorem set_info : (Tryd.prog.info? (Tryd.lays161_ren.t 116)).map (fun i => (i.zero, i.size)) = some (some (.agg (Array.replicate 256 (.bool false))), 256) := by kernel_rfl
theorem trim_any (l cs : List UInt8) (w : World) (hcs : cs.length < 4294967281) (ha : cs.all (fun b => decide (b.toNat < 128)) = true) :
    Calls Tryd.prog 30 #[.string (str l), .string (str cs)] w fun e w' => e = .returned (.string (str (l.dropWhile fun c => cs.contains c))) ∧ Below w.heap.size w w' :=
  Any.strings_TrimLeft_laid Tryd.lays161 set_info (str l) (str cs) w (by rw [str_size]; exact hcs) (ascii_of_all ha)
theorem drop_taken (f : UInt8 → Bool) (l : List UInt8) : l.drop (l.takeWhile f).length = l.dropWhile f ∧ l.take (l.takeWhile f).length = l.takeWhile f ∧ (l.takeWhile f).length + (l.dropWhile f).length = l.length := by
  have h := List.takeWhile_append_dropWhile (p := f) (l := l)
  generalize l.takeWhile f = a at *
  generalize l.dropWhile f = b at *
  subst h
  simp

set_option maxHeartbeats 1000000 in
set_option maxRecDepth 100000 in
theorem passAll_any (b : Nat) (l cs : List UInt8) (f : UInt8 → Bool) (p : Nat) (V : Value) (w : World) (h : Rdr w b l p V) (hp : l.length + p ≤ 1000000) (hcs : cs.length < 4294967281) (ha : cs.all (fun b => decide (b.toNat < 128)) = true) (hf : ∀ c, cs.contains c = f c) :
    Calls Tryd.prog 18 #[.pointer (some ⟨b, 0, none⟩), .string (str cs)] w fun e w' => e = .returned (.string (str (l.takeWhile f))) ∧ Rdr w' b (l.dropWhile f) (p + (l.takeWhile f).length) V ∧ But b w w' := by
  have ht := fun W => trim_any l cs W hcs ha
  rw [funext hf] at ht
  obtain ⟨hd, htk, hlen⟩ := drop_taken f l
  obtain ⟨n, hn⟩ : ∃ n, n = (l.takeWhile f).length := ⟨_, rfl⟩
  rw [← hn] at hd htk hlen ⊢
  rw [← htk]
  rw [← hd] at ht hlen ⊢
  have hdl : (str (l.drop n)).size = l.length - n := by rw [str_size, List.length_drop]
  have hsz : (str l).size = l.length := str_size l
  have hnl : n ≤ l.length := by omega
  have hsub : ((l.length : Nat) : Int) - ((l.length - n : Nat) : Int) = (n : Int) := by omega
  have c0 := h.left
  have k0 := Qt.cell_in c0
  clear hd htk hn hf hlen
  go_enter Tryd.func18, Tryd.ntmps18
  go_wp2
  refine Qt.region_call 14 (by kernel_rfl) (by kernel_rfl) rfl rfl Tryd.func29 (by kernel_rfl) (by kernel_rfl) rfl ?_
  simp only [List.take_succ_cons, List.take_zero, List.drop_succ_cons, List.drop_zero]
  repeat (go_big_quiet_step (first | (go_at_call 30; exact Qt.at_call ht)))
  refine wpQuiet_nil ?_
  intro w3 hb3
  have hp3 := pass_any b l n p V w3 (h.below hb3) hnl hp
  simp only [List.map_toArray, List.map_cons, List.map_nil]
  show Calls Tryd.prog _ #[.pointer (some ⟨b, 0, none⟩), .int .i64 n] w3 _
  refine hp3.mono ?_
  rintro e w4 ⟨rfl, hR4, hB4⟩
  refine ⟨_, rfl, ?_⟩
  clear k0 c0 hp3
  simp only [Act.put, List.setIfInBounds_toArray, List.set_cons_succ, List.set_cons_zero]
  repeat (go_big_quiet_step (fail))
  refine wpQuiet_nil ?_
  intro w5 hb5
  go_wp2
  go_ret
  exact ⟨rfl, hR4.below hb5, ((But.of hb3).trans hB4).trans (But.of hb5)⟩
end Go.Proofs.YtildobjgohddoaaDoor
