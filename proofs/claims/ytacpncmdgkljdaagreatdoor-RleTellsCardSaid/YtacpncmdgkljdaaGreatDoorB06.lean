/-
  Texts that the claims of this seat share, part 6.
-/
import Derived.Test.YtacpncmdgkljdaaGreatDoorB05
import Derived.Test.YtacpncmdgkljdaaGreatDoorB01
import Derived.Lib.FrozenHead2
import Derived.Lib.OthersKept
import Derived.Laws.IdiomStrings
import Derived.Test.YtacpncmdgkljdaaGreatDoorB02
import Derived.Test.YtacpncmdgkljdaaGreatDoorB04
import Derived.Test.YtacpncmdgkljdaaGreatDoorRows
import Derived.ProofKit
import Derived.OpenShut
import Derived.ChangeOld
import Derived.Deep.Slices
import Derived.Deep.Fields
set_option linter.unusedVariables false
set_option linter.unusedSimpArgs false
namespace Go.Proofs.YtacpncmdgkljdaaGreatDoor
set_option linter.unusedVariables false
set_option linter.unusedSimpArgs false
open Go.RowKit Go.Sort

theorem hashN_at : ∀ (f : Nat) (l : List UInt8) (k : Nat), k ≤ l.length → ∃ k', k' ≤ l.length ∧ hashN f (l.drop k) k = (l.drop k', k') := by
  intro f
  induction f with
  | zero => intro l k hk; exact ⟨k, hk, rfl⟩
  | succ f ih =>
    intro l k hk
    rw [hashN_succ]
    by_cases h : (l.drop k).head? = some 35
    · rw [if_pos h]
      cases hl : lineL (l.drop k) with
      | none => exact ⟨k, hk, rfl⟩
      | some q =>
        obtain ⟨a, r⟩ := q
        have hb := (line_back hl).1
        have hlen := congrArg List.length hb
        simp only [List.length_drop, List.length_append, List.length_cons] at hlen
        have hr : r = l.drop (k + a.length + 1) := by
          have e : l.drop (k + a.length + 1) = (l.drop k).drop (a.length + 1) := by rw [List.drop_drop]; congr 1
          rw [e, hb]
          simp
        simp only
        rw [hr]
        exact ih l (k + a.length + 1) (by omega)
    · rw [if_neg h]
      exact ⟨k, hk, rfl⟩
theorem hash_at (l : List UInt8) : ∃ k, k ≤ l.length ∧ hashL l 0 = (l.drop k, k) := by
  have := hashN_at l.length l 0 (Nat.zero_le _)
  rwa [List.drop_zero] at this
theorem line_drop {l a r : List UInt8} {k : Nat} (h : lineL (l.drop k) = some (a, r)) : r = l.drop (k + a.length + 1) ∧ k + a.length + 1 + r.length = l.length := by
  have hb := (line_back h).1
  have hlen := congrArg List.length hb
  simp only [List.length_drop, List.length_append, List.length_cons] at hlen
  refine ⟨?_, by omega⟩
  have e : l.drop (k + a.length + 1) = (l.drop k).drop (a.length + 1) := by rw [List.drop_drop]; congr 1
  rw [e, hb]
  simp
theorem str_from (l : List UInt8) {k : Nat} : (str l).extract k l.length = str (l.drop k) := by
  apply ByteArray.ext
  apply Array.ext'
  simp [str, List.take_of_length_le]

set_option maxHeartbeats 4000000 in
set_option maxRecDepth 100000 in
theorem remarks_any (l : List UInt8) (w : World) (hl : l.length ≤ 1000000) (hM : Mx w) :
    Calls Tryz.prog 24 #[.string (str l)] w fun e w' => e = .returned (.int .i64 (hashL l 0).2) ∧ Below w.heap.size w w' := by
  obtain ⟨r, hr⟩ : ∃ r, r = hashL l 0 := ⟨_, rfl⟩
  rw [← hr]
  have HR0 : Hid (hashL (l.drop 0) 0 = r) := by rw [List.drop_zero]; exact hr.symm
  have hsz := str_size l
  have HX : Hid (∀ k, (str l).extract k l.length = str (l.drop k)) := fun k => str_from l
  clear hr
  generalize str l = s at hsz HX
  go_enter Tryz.func24, Tryz.ntmps24
  go_wp2
  go_loopw [3] (fun i wr => ∃ k : Nat, k ≤ l.length ∧ i = .int .i64 k ∧ Hid (hashL (l.drop k) k = r) ∧ Below w.heap.size w wr) (fun i _ => l.length - (intOf i).toNat)
  case atStart => exact ⟨0, Nat.zero_le _, rfl, HR0, Below.refl _ _⟩
  case round =>
    obtain ⟨k, hk, rfl, HK, hb⟩ := hrel
    have hkz : (k : Int) ≤ (s.size : Int) := by omega
    have hx := HX.out k
    have hpre := fun W => pre_any (l.drop k) [35] W
    have h35 := head_pre35 (l.drop k)
    have hcut := cutS_any [10] (l.drop k) wr (by decide) (by rw [List.length_drop]; omega) (hM.below hb)
    have hline := line_cut (l.drop k)
    have H35 := Lib.hid h35
    clear h35
    cases hp : Lib.hasPrefix (l.drop k) [35] with
    | false =>
      have he : r.2 = k := by
        rw [← HK.out, hash_no (fun e => by rw [H35.out.2 e] at hp; cases hp)]
      rw [hp] at hpre
      clear hcut hline H35 HK hp
      generalize str (l.drop k) = sk at *
      go_wp2_with fail
      refine (hpre _).mono ?_
      rintro e w1 ⟨rfl, rfl⟩
      go_wp2
      go_ret
      exact ⟨by rw [he]; rfl, hb⟩
    | true =>
      rw [hp] at hpre
      have h1 := H35.out.1 hp
      clear H35 hp
      cases hln : lineL (l.drop k) with
      | none =>
        have he : r.2 = k := by rw [← HK.out, hash_open hln]
        rw [cutT_none (by rw [hline]; exact hln)] at hcut
        clear hline HK hln h1
        generalize str (l.drop k) = sk at *
        generalize str [] = s0 at *
        go_wp2_with fail
        refine (hpre _).mono ?_
        rintro e w1 ⟨rfl, rfl⟩
        go_wp2_with fail
        refine hcut.mono ?_
        rintro e w2 ⟨rfl, hb2⟩
        go_wp2
        go_ret
        exact ⟨by rw [he]; rfl, Qt.more hb hb.size hb2⟩
      | some q =>
        obtain ⟨a, rr⟩ := q
        obtain ⟨hrr, hlen⟩ := line_drop hln
        have hon := hash_on h1 hln k
        rw [HK.out] at hon
        rw [cutT_some (by rw [hline]; exact hln)] at hcut
        have hrs := str_size rr
        have HON := Lib.hid hon
        have HRR := Lib.hid hrr
        clear hline HK hln h1 hon hrr
        generalize str (l.drop k) = sk at *
        generalize str a = sa at *
        generalize str rr = sr at *
        go_wp2_with fail
        refine (hpre _).mono ?_
        rintro e w1 ⟨rfl, rfl⟩
        go_wp2_with fail
        refine hcut.mono ?_
        rintro e w2 ⟨rfl, hb2⟩
        have hbb := Qt.more hb hb.size hb2
        clear hcut hb2
        go_wp2
        go_roundw
        case measure => simp [intOf]; omega
        case rel =>
          refine ⟨k + a.length + 1, by omega, ?_, ?_, hbb⟩
          · show Value.int .i64 _ = Value.int .i64 _
            congr 1
            omega
          · rw [← HRR.out]
            exact HON.out.symm

end Go.Proofs.YtacpncmdgkljdaaGreatDoor
namespace Go.Proofs.YtacpncmdgkljdaaGreatDoor
set_option linter.unusedVariables false
open Go.RowKit Go.Sort

/-- The builder at block b holds these bytes; its row lies at B or behind it. -/
def Bld (w : World) (B b : Nat) (l : List UInt8) : Prop := Lib.IsBuilderF 71 5 B b (Lib.byteCells l) w
/-- Every block that is not b and is no row of bytes stands. -/
abbrev Rest (b : Nat) (w w' : World) : Prop := Lib.OthersKept 5 (some b) w w'

theorem bld_new (w : World) : Bld (w.alloc (.cells #[.pointer none, .slice none 0 0] 71)) w.heap.size w.heap.size [] :=
  Lib.IsBuilderF.of (Lib.fresh_isBuilder _ _ w)
theorem byteCells_append (l m : List UInt8) : Lib.byteCells (l ++ m) = Lib.byteCells l ++ Lib.byteCells m := by simp [Lib.byteCells]

theorem info_byte : (Tryz.prog.info? 5).map (fun i => (i.zero, i.size, i.bytes)) = some (some (.int .u8 0), 1, 1) := by kernel_rfl

theorem builder_size : (Tryz.prog.info? 71).map (·.size) = some 2 := by kernel_rfl
theorem builder_lies : liesAt Tryz.prog Tryz.prog.depth 71 (2 / Tryz.prog.cellsOf 71) 0 71 1 = true := by kernel_rfl

set_option maxRecDepth 100000 in
/-- copyCheck: behind it the builder bears its own address. -/
theorem check_any (B b : Nat) (bs : List Value) (w : World) (h : Lib.IsBuilderF 71 5 B b bs w) :
    Calls Tryz.prog 66 #[.pointer (some ⟨b, 0, none⟩)] w fun e w' => e = .returned (.tuple #[]) ∧ Lib.BuilderAtF 71 5 B b (.pointer (some ⟨b, 0, none⟩)) bs w' ∧ Below B w w' ∧ Rest b w w' := by
  rcases h with h | h
  · obtain ⟨j, hj, hjs⟩ := Option.map_eq_some_iff.1 builder_size
    have c0 := h.cell0
    have c1 := h.shape
    have c2 := h.frozen0
    have d0 : (w.setCell ⟨b, 0, none⟩ (.pointer (some ⟨b, 0, none⟩))).cell? ⟨b, 0, none⟩ = some (.pointer (some ⟨b, 0, none⟩)) := (h.used _).cell0
    have hb : Below B w (w.setCell ⟨b, 0, none⟩ (.pointer (some ⟨b, 0, none⟩))) := (Below.refl B w).setCell (p := ⟨b, 0, none⟩) h.1 _
    have hk : Rest b w (w.setCell ⟨b, 0, none⟩ (.pointer (some ⟨b, 0, none⟩))) := (Lib.OthersKept.refl _ _ w).setCell ⟨b, 0, none⟩ rfl _
    have hu := h.used (.pointer (some ⟨b, 0, none⟩))
    go_enter Tryz.func66, Tryz.ntmps66
    go_wp2
    rw [Lib.run_to_unsafe w ⟨b, 0, none⟩ Tryz.underlying68 Tryz.underlying106 hj (by rw [hjs]; decide) c1 (Nat.zero_lt_succ 1)]
    simp only [Result.andThen]
    rw [Oper.upon_value]
    go_wp2
    rw [run_callFunc_extern Tryz.func78 (by kernel_rfl) (by kernel_rfl) (by kernel_rfl) (e := Extern.AbiNoEscape.same) (by kernel_rfl)]
    rw [Lib.run_noEscape]
    simp only [Result.andThen]
    rw [Oper.upon_value]
    go_wp2
    rw [Lib.run_from_unsafe w ⟨b, 0, none⟩ Tryz.underlying106 Tryz.underlying68 hj c1 builder_lies]
    simp only [Result.andThen]
    rw [Oper.upon_value]
    go_wp2
    go_end0
    exact ⟨rfl, hu, hb, hk⟩
  · obtain ⟨j, hj, hjs⟩ := Option.map_eq_some_iff.1 builder_size
    have c0 := h.cell0
    go_enter Tryz.func66, Tryz.ntmps66
    go_wp2
    rw [Lib.run_neq_ptr_same w _ Tryz.underlying68 hj]
    go_wp2
    go_end0
    exact ⟨rfl, h, Below.refl _ _, Lib.OthersKept.refl _ _ _⟩

set_option maxHeartbeats 1000000 in
theorem wbyte_any (B b : Nat) (l : List UInt8) (c : UInt8) (w : World) (h : Bld w B b l) (hl : l.length + 1 ≤ 140737488355328) (hB : B ≤ w.heap.size) :
    Calls Tryz.prog 40 #[.pointer (some ⟨b, 0, none⟩), .int .u8 c.toNat] w fun e w' => e = .returned .nilIface ∧ Bld w' B b (l ++ [c]) ∧ Below B w w' ∧ Rest b w w' := by
  obtain ⟨i0, hi, hz0, hz1, hz2⟩ := info_parts info_byte
  go_enter Tryz.func40, Tryz.ntmps40
  go_wp2_with fail
  refine (check_any B b _ _ h).mono ?_
  rintro e w1 ⟨rfl, ⟨hBb, v, hbk, hown, hne⟩, hb1, hk1⟩
  have c0 : w1.cell? ⟨b, 0, none⟩ = some (.pointer (some ⟨b, 0, none⟩)) := by rw [Lib.cell_of_heap hbk]; rfl
  have c1 : w1.cell? ⟨b, 1, none⟩ = some v := by rw [Lib.cell_of_heap hbk]; rfl
  have hsz : B ≤ w1.heap.size := Nat.le_trans hB hb1.size
  have hlen : (Lib.byteCells l).length = l.length := Lib.byteCells_length l
  go_wp2_with (at_builtin; refine wpList_append_ownF _ rfl _ _ 69 rfl B 5 i0 (.int .u8 0) 1 1 Tryz.underlying69 hi hz0 hz1 hz2 rfl (by decide) _ _ _ rfl (hown.alloc _) ⟨w1.heap.size, 0, none⟩ 1 1 [.int .u8 c.toNat] rfl rfl ?c1 ?c2 ?c3 ?c4 ?c5 ?_)
  case c1 =>
    intro j u hj
    match j, hj with
    | 0, hj => simp at hj; subst hj; simp [Addr.add]
  case c2 => intro u hu; simp at hu; subst hu; rfl
  case c3 => unfold maxLen; omega
  case c4 => omega
  case c5 => simp; omega
  intro v' w2 hown' hgrow _
  have hlt : b < w1.heap.size := by
    rcases Nat.lt_or_ge b w1.heap.size with h' | h'
    · exact h'
    · simp [Array.getElem?_eq_none h'] at hbk
  have hb2 : w2.heap[b]? = some (.cells #[.pointer (some ⟨b, 0, none⟩), v] 71 (0, 0)) := by
    rw [hgrow.block b (by simp; omega) (fun e => hne e.symm), Lib.alloc_old w1 _ b hlt]
    exact hbk
  have d0 : w2.cell? ⟨b, 0, none⟩ = some (.pointer (some ⟨b, 0, none⟩)) := by rw [Lib.cell_of_heap hb2]; rfl
  have d1 : w2.cell? ⟨b, 1, none⟩ = some v := by rw [Lib.cell_of_heap hb2]; rfl
  have f1 : w2.frozen? ⟨b, 1, none⟩ = false := Lib.frozen_of_heap hb2 1
  have hput := fun u (hu : w2.ownsRowF B 5 1 u (Lib.byteCells (l ++ [c])).length (Lib.byteCells (l ++ [c]))) => Lib.BuilderAtF.put (T := 71) (e := 5) hBb hb2 hu (by decide)
  have hbel := fun u => ((hb1.alloc (Nat.le_trans hB hb1.size) _).grown hgrow (by simp; omega) (fun k hk => (hown.lt k hk).1)).setCell (p := ⟨b, 1, none⟩) hBb u
  have hrest := fun u => ((hk1.alloc _).grown hgrow (Lib.ownsRowF_kind (hown.alloc _))).setCell ⟨b, 1, none⟩ rfl u
  have hown2 : w2.ownsRowF B 5 1 v' (Lib.byteCells (l ++ [c])).length (Lib.byteCells (l ++ [c])) := by
    rw [byteCells_append, List.length_append, hlen]
    exact hown'
  obtain ⟨ao, n', cap, rfl⟩ : ∃ ao n' cap, v' = .slice ao n' cap := by
    rcases hown'.2 with ⟨hv, _⟩ | ⟨g, cap, cur, fz, hv, _⟩
    · exact ⟨_, _, _, hv⟩
    · exact ⟨_, _, _, hv⟩
  have HP := Lib.hid (hput _ hown2)
  have HB := Lib.hid (hbel (.slice ao n' cap))
  have HR := Lib.hid (hrest (.slice ao n' cap))
  clear hput hbel hrest hown2 hown' hgrow
  go_wp2
  go_ret
  exact ⟨rfl, .inr HP.out, HB.out, HR.out⟩

set_option maxHeartbeats 1000000 in
theorem wtext_any (B b : Nat) (l : List UInt8) (s : ByteArray) (w : World) (h : Bld w B b l) (hl : l.length + s.size ≤ 140737488355328) (hB : B ≤ w.heap.size) :
    Calls Tryz.prog 39 #[.pointer (some ⟨b, 0, none⟩), .string s] w fun e w' => e = .returned (.tuple #[.int .i64 s.size, .nilIface]) ∧ Bld w' B b (l ++ s.data.toList) ∧ Below B w w' ∧ Rest b w w' := by
  obtain ⟨i0, hi, hz0, hz1, hz2⟩ := info_parts info_byte
  go_enter Tryz.func39, Tryz.ntmps39
  go_wp2_with fail
  refine (check_any B b _ _ h).mono ?_
  rintro e w1 ⟨rfl, ⟨hBb, v, hbk, hown, hne⟩, hb1, hk1⟩
  have c0 : w1.cell? ⟨b, 0, none⟩ = some (.pointer (some ⟨b, 0, none⟩)) := by rw [Lib.cell_of_heap hbk]; rfl
  have c1 : w1.cell? ⟨b, 1, none⟩ = some v := by rw [Lib.cell_of_heap hbk]; rfl
  have hsz : B ≤ w1.heap.size := Nat.le_trans hB hb1.size
  have hlen : (Lib.byteCells l).length = l.length := Lib.byteCells_length l
  go_wp2_with (at_builtin; refine Lib.wpList_append_own_stringF _ rfl _ _ 69 9 rfl B 5 i0 Tryz.underlying69 Tryz.underlying9 hi hz0 hz1 hz2 _ _ _ rfl hown s rfl ?c3 ?c4 ?c5 ?_)
  case c3 => unfold maxLen; omega
  case c4 => omega
  case c5 => omega
  intro v' w2 hown' hgrow _
  have hlt : b < w1.heap.size := by
    rcases Nat.lt_or_ge b w1.heap.size with h' | h'
    · exact h'
    · simp [Array.getElem?_eq_none h'] at hbk
  have hb2 : w2.heap[b]? = some (.cells #[.pointer (some ⟨b, 0, none⟩), v] 71 (0, 0)) := by
    rw [hgrow.block b hlt (fun e => hne e.symm)]
    exact hbk
  have d0 : w2.cell? ⟨b, 0, none⟩ = some (.pointer (some ⟨b, 0, none⟩)) := by rw [Lib.cell_of_heap hb2]; rfl
  have d1 : w2.cell? ⟨b, 1, none⟩ = some v := by rw [Lib.cell_of_heap hb2]; rfl
  have f1 : w2.frozen? ⟨b, 1, none⟩ = false := Lib.frozen_of_heap hb2 1
  have hput := fun u (hu : w2.ownsRowF B 5 1 u (Lib.byteCells (l ++ s.data.toList)).length (Lib.byteCells (l ++ s.data.toList))) => Lib.BuilderAtF.put (T := 71) (e := 5) hBb hb2 hu (by decide)
  have hbel := fun u => (hb1.grown hgrow hsz (fun k hk => (hown.lt k hk).1)).setCell (p := ⟨b, 1, none⟩) hBb u
  have hrest := fun u => (hk1.grown hgrow (Lib.ownsRowF_kind hown)).setCell ⟨b, 1, none⟩ rfl u
  have hown2 : w2.ownsRowF B 5 1 v' (Lib.byteCells (l ++ s.data.toList)).length (Lib.byteCells (l ++ s.data.toList)) := by
    rw [byteCells_append, List.length_append, ← Lib.strCells_eq, Lib.strCells_length, hlen]
    exact hown'
  obtain ⟨ao, n', cap, rfl⟩ : ∃ ao n' cap, v' = .slice ao n' cap := by
    rcases hown'.2 with ⟨hv, _⟩ | ⟨g, cap, cur, fz, hv, _⟩
    · exact ⟨_, _, _, hv⟩
    · exact ⟨_, _, _, hv⟩
  have HP := Lib.hid (hput _ hown2)
  have HB := Lib.hid (hbel (.slice ao n' cap))
  have HR := Lib.hid (hrest (.slice ao n' cap))
  clear hput hbel hrest hown2 hown' hgrow
  go_wp2
  go_ret2
  exact ⟨rfl, .inr HP.out, HB.out, HR.out⟩

theorem told_any (B b : Nat) (l : List UInt8) (w : World) (h : Bld w B b l) (hB : B ≤ w.heap.size) :
    Calls Tryz.prog 41 #[.pointer (some ⟨b, 0, none⟩)] w fun e w' => e = .returned (.string ⟨l.toArray⟩) ∧ Below B w w' :=
  (Any.Builder_String_any_k Tryz.lays169 Tryz.Builder_Extra_169 B b l w h hB).mono fun _ _ h => ⟨h.1, h.2.2.1⟩

end Go.Proofs.YtacpncmdgkljdaaGreatDoor
namespace Go.Proofs.YtacpncmdgkljdaaGreatDoor
set_option linter.unusedVariables false
set_option linter.unusedSimpArgs false
open Go.RowKit Go.Sort

theorem txt_out {n : Int} (h : n < 0 ∨ 4611686018427387903 < n) : txt n = ⟨#[]⟩ := by unfold txt txtL; rw [if_neg (by omega)]
theorem txt_size (n : Int) : (txt n).size ≤ 19 := by
  have := txtL_len n
  show (txtL n).toArray.size ≤ 19
  simpa using this
theorem txt_small {u : Nat} (h : u < 10) : txt u = ⟨[UInt8.ofNat (48 + u % 10)].toArray⟩ := by
  unfold txt
  rw [txtL_nat (by omega), dec_small h, show u % 10 = u by omega]
theorem txt_big {u : Nat} (h : ¬ u < 10) (hu : u ≤ 4611686018427387903) : txt u = txt ((u / 10 : Nat) : Int) ++ ⟨[UInt8.ofNat (48 + u % 10)].toArray⟩ := by
  unfold txt
  rw [txtL_nat hu, txtL_nat (by omega), dec_big h]
  apply ByteArray.ext
  simp

theorem conv_one (w : World) (u : Nat) : (convert 69 9 (.slice (some ⟨w.heap.size, 0, none⟩) 1 1)).run Tryz.prog (w.alloc (.cells #[.int .u8 (48 + (u : Int) % 10)] 5)) = .ok (.string ⟨[UInt8.ofNat (48 + u % 10)].toArray⟩) (w.alloc (.cells #[.int .u8 (48 + (u : Int) % 10)] 5)) := by
  refine run_convert_bytes_back (P := Tryz.prog) _ 69 9 5 ⟨w.heap.size, 0, none⟩ 1 [UInt8.ofNat (48 + u % 10)] Tryz.underlying69 Tryz.underlying5 Tryz.underlying9 fun j hj => ?_
  have hj0 : j = 0 := by simp at hj; omega
  subst hj0
  have e : ((UInt8.ofNat (48 + u % 10)).toNat : Int) = 48 + (u : Int) % 10 := by
    rw [ofNat_to (u % 10) (by omega)]
    omega
  simp only [List.getElem_cons_zero, e]
  simp [Addr.add]

set_option maxHeartbeats 1000000 in
set_option maxRecDepth 100000 in
theorem refText_nat (u : Nat) (hu : u ≤ 4611686018427387903) (w : World) :
    Calls Tryz.prog 22 #[.int .i64 u] w fun e w' => e = .returned (.string (txt u)) ∧ Below w.heap.size w w' := by
  induction u using Nat.strongRecOn generalizing w with
  | _ u ih =>
    have hcv := conv_one w u
    have hb1 : Below w.heap.size w (w.alloc (.cells #[.int .u8 (48 + (u : Int) % 10)] 5)) := (Below.refl _ _).alloc (Nat.le_refl _) _
    by_cases h10 : u < 10
    · rw [txt_small h10]
      generalize (⟨[UInt8.ofNat (48 + u % 10)].toArray⟩ : ByteArray) = c at hcv ⊢
      clear ih
      have h10z : (u : Int) < 10 := by omega
      go_enter Tryz.func22, Tryz.ntmps22
      go_wp2
      go_ret
      exact ⟨rfl, hb1⟩
    · have hi := ih (u / 10) (by omega) (by omega)
      have HB := Lib.hid (txt_big h10 hu)
      have hs := txt_size ((u / 10 : Nat) : Int)
      have hq : ((u / 10 : Nat) : Int) = (u : Int) / 10 := by omega
      rw [hq] at hi hs
      rw [HB.out, hq]
      generalize txt ((u : Int) / 10) = t at hi hs ⊢
      have h10z : ¬ (u : Int) < 10 := by omega
      clear hq ih HB
      generalize hc : (⟨[UInt8.ofNat (48 + u % 10)].toArray⟩ : ByteArray) = c at hcv ⊢
      have hcs : c.size = 1 := by rw [← hc]; rfl
      have hcs1 : c.size ≤ 1 := by omega
      clear hc hcs
      go_enter Tryz.func22, Tryz.ntmps22
      go_wp2_with (go_at_call 22; refine (hi _).mono ?_; rintro e w' ⟨rfl, hb2⟩)
      go_ret
      exact ⟨rfl, Qt.more hb1 hb1.size hb2⟩

theorem refText_any (n : Int) (w : World) (hi : I64 n) :
    Calls Tryz.prog 22 #[.int .i64 n] w fun e w' => e = .returned (.string (txt n)) ∧ Below w.heap.size w w' := by
  by_cases h : 0 ≤ n ∧ n ≤ 4611686018427387903
  · have := refText_nat n.toNat (by omega) w
    rwa [show ((n.toNat : Nat) : Int) = n by omega] at this
  · rw [txt_out (by omega)]
    have h' : n < 0 ∨ ¬ n < 0 ∧ 4611686018427387903 < n := by omega
    clear h hi
    rcases h' with h | ⟨h0, h⟩
    all_goals
      go_enter Tryz.func22, Tryz.ntmps22
      go_wp2
      all_goals go_ret
      all_goals exact ⟨rfl, Below.refl _ _⟩

set_option maxHeartbeats 4000000 in
theorem refParse_any (s : ByteArray) (w : World) (hs : s.size ≤ maxLen) :
    Calls Tryz.prog 61 #[.string s] w (ParseR (parseL s.data.toList) w) := by
  unfold maxLen at hs
  generalize hr : parseL s.data.toList = r
  obtain ⟨r1, r2⟩ := r
  have HR := Lib.hid hr
  clear hr
  go_enter Tryz.func61, Tryz.ntmps61
  go_wp2
  go_loop [4] (fun i => ∃ k : Nat, k ≤ s.size ∧ i = .int .i64 k ∧ Hid (∀ j, j < k → 48 ≤ byt s j ∧ byt s j ≤ 57)) (fun i => s.size - (intOf i).toNat)
  case atStart => exact ⟨0, Nat.zero_le _, rfl, fun j hj => absurd hj (Nat.not_lt_zero j)⟩
  case round =>
    obtain ⟨k, hk, rfl, HK⟩ := hrel
    by_cases hlt : k < s.size
    · have hltz : (k : Int) < (s.size : Int) := by omega
      have hbk := byt_at s k hlt
      obtain ⟨d, hd⟩ : ∃ d : Nat, d = (s[k]'hlt).toNat := ⟨_, rfl⟩
      by_cases hin : 48 ≤ (s[k]'hlt).toNat ∧ (s[k]'hlt).toNat ≤ 57
      · obtain ⟨h1, h2⟩ := hin
        have HK2 := Lib.hid (digs_to hlt HK.out (by omega))
        clear hbk hd HK
        go_wp2
        go_round
        case measure => simp [intOf]; omega
        case rel => exact ⟨k + 1, by omega, by go_num, HK2.out⟩
      · have he := HR.out.symm.trans (parse_off hlt (by omega))
        simp only [Prod.mk.injEq] at he
        obtain ⟨rfl, rfl⟩ := he
        have h' : (s[k]'hlt).toNat < 48 ∨ ¬ (s[k]'hlt).toNat < 48 ∧ 57 < (s[k]'hlt).toNat := by omega
        clear hbk hd HK HR hin
        rcases h' with h | ⟨h0, h⟩
        all_goals
          go_wp2
          all_goals go_ret2
          all_goals exact ⟨rfl, Below.refl _ _⟩
    · have hltz : ¬ (k : Int) < (s.size : Int) := by omega
      have hdig : ∀ j, j < s.size → 48 ≤ byt s j ∧ byt s j ≤ 57 := by rw [show s.size = k by omega]; exact HK.out
      have HD := Lib.hid hdig
      clear hdig HK
      by_cases h0 : s.size = 0
      · have hp := HR.out.symm.trans (parse_none h0)
        simp only [Prod.mk.injEq] at hp
        obtain ⟨rfl, rfl⟩ := hp
        have hs0 : s.toList = [] := list_none h0
        clear h0 HR
        go_wp2
        all_goals go_ret2
        all_goals exact ⟨rfl, Below.refl _ _⟩
      · have hs0 : ¬ s.toList = [] := list_some (by omega)
        have hs1 : s.toList.isEmpty = false := by simpa using hs0
        have hpos : 0 < s.size := by omega
        clear h0
        by_cases hz : 1 < s.size ∧ byt s 0 = 48
        · have hp := HR.out.symm.trans (parse_zero hz.1 hz.2)
          simp only [Prod.mk.injEq] at hp
          obtain ⟨rfl, rfl⟩ := hp
          have h1 : (1 : Int) < (s.size : Int) := by omega
          have h2 : (((s[0]'hpos).toNat : Int) == 48) = true := by rw [byt_at s 0 hpos, hz.2]; rfl
          clear hz HR
          go_wp2
          all_goals go_ret2
          all_goals exact ⟨rfl, Below.refl _ _⟩
        · have hgood : badL s.data.toList = false := parse_all hpos hz HD.out
          have HG := Lib.hid hgood
          have hcase : ¬ (1 : Int) < (s.size : Int) ∨ (1 : Int) < (s.size : Int) ∧ (((s[0]'hpos).toNat : Int) == 48) = false := by
            by_cases h1 : 1 < s.size
            · right
              refine ⟨by omega, ?_⟩
              rw [byt_at s 0 hpos, beq_eq_false_iff_ne]
              intro e
              exact hz ⟨h1, by omega⟩
            · left; omega
          clear hz hgood
          by_cases h19 : 19 < s.size
          · have hp := HR.out.symm.trans (parse_big HG.out (long_big HG.out (by rw [← size_list]; exact h19)))
            simp only [Prod.mk.injEq] at hp
            obtain ⟨rfl, rfl⟩ := hp
            have h19z : (19 : Int) < (s.size : Int) := by omega
            clear HR
            rcases hcase with h1 | ⟨h1, h2⟩
            all_goals
              go_wp2
              all_goals go_ret2
              all_goals exact ⟨rfl, Below.refl _ _⟩
          · have h19z : ¬ (19 : Int) < (s.size : Int) := by omega
            rcases hcase with h1 | ⟨h1, h2⟩
            all_goals
              go_wp2
              go_loop [5, 6] (fun v i => ∃ k n : Nat, k ≤ s.size ∧ n ≤ 4611686018427387903 ∧ v = .int .i64 n ∧ i = .int .i64 k ∧ Hid (n = val (s.data.toList.take k))) (fun _ i => s.size - (intOf i).toNat)
              case atStart => exact ⟨0, 0, Nat.zero_le _, Nat.zero_le _, rfl, rfl, rfl⟩
              case round =>
                obtain ⟨k, n, hk, hn, rfl, rfl, HK⟩ := hrel
                by_cases hlt : k < s.size
                · have hltz : (k : Int) < (s.size : Int) := by omega
                  have hdg := HD.out k hlt
                  have hbk := byt_at s k hlt
                  have hb1 : 48 ≤ (s[k]'hlt).toNat := by omega
                  have hb2 : (s[k]'hlt).toNat ≤ 57 := by omega
                  have HV := Lib.hid (val_to hlt)
                  have HBK := Lib.hid hbk
                  clear hdg hbk
                  by_cases hc : (4611686018427387903 - (((s[k]'hlt).toNat : Int) - 48)) / 10 < (n : Int)
                  · have hp := HR.out.symm.trans (parse_big HG.out (val_more (k := k + 1) (by rw [HV.out, ← HK.out, ← HBK.out]; omega)))
                    simp only [Prod.mk.injEq] at hp
                    obtain ⟨rfl, rfl⟩ := hp
                    clear HR
                    go_wp2
                    all_goals go_ret2
                    all_goals exact ⟨rfl, Below.refl _ _⟩
                  · have hnn : 10 * n + ((s[k]'hlt).toNat - 48) ≤ 4611686018427387903 := by omega
                    have heq : ((10 * n + ((s[k]'hlt).toNat - 48) : Nat) : Int) = 10 * (n : Int) + (((s[k]'hlt).toNat : Int) - 48) := by omega
                    have HE := Lib.hid heq
                    clear heq
                    go_wp2
                    go_round
                    case measure => simp [intOf]; omega
                    case rel => exact ⟨k + 1, 10 * n + ((s[k]'hlt).toNat - 48), by omega, hnn, by rw [HE.out], by go_num, (show _ = val _ by rw [HV.out, ← HK.out, HBK.out])⟩
                · have hltz : ¬ (k : Int) < (s.size : Int) := by omega
                  have hv : n = val s.data.toList := by rw [HK.out, List.take_of_length_le (by rw [← size_list]; omega)]
                  have hp := HR.out.symm.trans (parse_ok HG.out (by omega))
                  rw [← hv] at hp
                  simp only [Prod.mk.injEq] at hp
                  obtain ⟨rfl, rfl⟩ := hp
                  clear HR hv HK
                  go_wp2
                  all_goals go_ret2
                  all_goals exact ⟨rfl, Below.refl _ _⟩

end Go.Proofs.YtacpncmdgkljdaaGreatDoor
namespace Go.Proofs.YtacpncmdgkljdaaGreatDoor
set_option linter.unusedVariables false
set_option linter.unusedSimpArgs false
open Go.RowKit Go.Sort

theorem Bld.below {w w' : World} {B b : Nat} {l : List UInt8} (h : Bld w B b l) (hb : Below w.heap.size w w') : Bld w' B b l := by
  have key : ∀ p, Lib.BuilderAtF 71 5 B b p (Lib.byteCells l) w → Lib.BuilderAtF 71 5 B b p (Lib.byteCells l) w' := by
    rintro p h1
    have hlt := h1.lt
    obtain ⟨hB, v, hbk, hown, hne⟩ := h1
    refine ⟨hB, v, (hb.block b hlt).trans hbk, hown.kept (row := none) ⟨hb.os, hb.tape, hb.output, hb.size, fun k hk _ => hb.block k hk⟩ ?_, hne⟩
    cases v.ownBlock with
    | none => exact .inl rfl
    | some g => exact .inr (fun e => by cases e)
  rcases h with h | h
  · exact .inl (key _ h)
  · exact .inr (key _ h)

/-- an item as a value -/
def aggE (x : Ite) : Value := .agg #[.int .u8 x.1.toNat, .int .i64 x.2.1, .int .i64 x.2.2]

set_option maxHeartbeats 1000000 in
set_option maxRecDepth 100000 in
theorem right_any (t : UInt8) (n p : Int) (w : World) :
    Calls Tryz.prog 38 #[.agg #[.int .u8 t.toNat, .int .i64 n, .int .i64 p]] w fun e w' => e = .returned (.bool (okE (t, n, p))) ∧ Below w.heap.size w w' := by
  have hb1 : Below w.heap.size w (w.alloc (.cells #[.int .u8 t.toNat, .int .i64 n, .int .i64 p] 61)) := (Below.refl _ _).alloc (Nat.le_refl _) _
  have hix : decide (0 ≤ Lib.indexByte (str [98, 111, 36]).data.toList ((t.toNat : Int)).toNat.toUInt8) = tagB t := by
    have e : ((t.toNat : Int)).toNat.toUInt8 = t := by simp
    rw [e, str_data, ← Lib.contains_iff_indexByte]
    unfold tagB
    simp only [List.contains_cons, List.contains_nil, Bool.or_false, Bool.or_assoc]
  generalize hr : okE (t, n, p) = r
  have HR := Lib.hid hr
  clear hr
  have hcall := fun W => Any.strings_IndexByte Tryz.lays137 (str [98, 111, 36]) ((t.toNat : Nat) : Int) W
  generalize Lib.indexByte (str [98, 111, 36]).data.toList ((t.toNat : Int)).toNat.toUInt8 = x at hix hcall
  have h3 : tagB t = false ∨ tagB t = true ∧ n < 1 ∨ tagB t = true ∧ 1 ≤ n ∧ n ≤ 1099511627776 ∨ tagB t = true ∧ 1 ≤ n ∧ 1099511627776 < n := by
    cases tagB t
    · exact .inl rfl
    · simp only [reduceCtorEq, true_and, false_or]
      omega
  have hok : r = (tagB t && decide (1 ≤ n) && decide (n ≤ 1099511627776)) := HR.out.symm
  rcases h3 with ht | ⟨ht, h1⟩ | ⟨ht, h1, h2⟩ | ⟨ht, h1, h2⟩
  · rw [ht] at hix hok
    have hx : ¬ 0 ≤ x := by simpa using hix
    obtain rfl : r = false := hok
    clear hix HR ht
    go_enter Tryz.func38, Tryz.ntmps38
    go_wp2_with (go_at_call 65; refine (hcall _).mono ?_; rintro e w' ⟨rfl, rfl⟩)
    all_goals go_ret
    all_goals exact ⟨by first | rfl | (simp [*]; done), hb1⟩
  · rw [ht] at hix hok
    have hx : 0 ≤ x := by simpa using hix
    have h1' : ¬ 1 ≤ n := by omega
    obtain rfl : r = false := by rw [hok, decide_eq_false h1']; rfl
    clear hix hok HR ht
    go_enter Tryz.func38, Tryz.ntmps38
    go_wp2_with (go_at_call 65; refine (hcall _).mono ?_; rintro e w' ⟨rfl, rfl⟩)
    all_goals go_ret
    all_goals exact ⟨by first | rfl | (simp [*]; done), hb1⟩
  · rw [ht] at hix hok
    have hx : 0 ≤ x := by simpa using hix
    obtain rfl : r = true := by rw [hok, decide_eq_true h1, decide_eq_true h2]; rfl
    clear hix hok HR ht
    go_enter Tryz.func38, Tryz.ntmps38
    go_wp2_with (go_at_call 65; refine (hcall _).mono ?_; rintro e w' ⟨rfl, rfl⟩)
    all_goals go_ret
    all_goals exact ⟨by first | rfl | (simp [*]; done), hb1⟩
  · rw [ht] at hix hok
    have hx : 0 ≤ x := by simpa using hix
    have h2' : ¬ n ≤ 1099511627776 := by omega
    obtain rfl : r = false := by rw [hok, decide_eq_true h1, decide_eq_false h2']; rfl
    clear hix hok HR ht
    go_enter Tryz.func38, Tryz.ntmps38
    go_wp2_with (go_at_call 65; refine (hcall _).mono ?_; rintro e w' ⟨rfl, rfl⟩)
    all_goals go_ret
    all_goals exact ⟨by first | rfl | (simp [*]; done), hb1⟩

theorem lt_of_heap {w : World} {k : Nat} {o : Obj} (h : w.heap[k]? = some o) : k < w.heap.size := by
  rcases Nat.lt_or_ge k w.heap.size with h1 | h1
  · exact h1
  · rw [Array.getElem?_eq_none h1] at h; cases h
/-- The box of an item stands behind a builder's call. -/
theorem box_kept {w w' : World} {b k : Nat} {cs : Array Value} (hk : Rest b w w') (h : w.heap[k]? = some (.cells cs 61 (0, 0))) (hne : k ≠ b) : w'.heap[k]? = some (.cells cs 61 (0, 0)) :=
  hk k _ h (fun e => hne (by injection e)) (fun c fz e => by
    simp only [Obj.cells.injEq] at e
    exact absurd e.2.1 (by decide))

def TextR (l : List Ite) (w : World) (e : Ending) (w' : World) : Prop := e = .returned (.string (str (textE l))) ∧ Below w.heap.size w w'

set_option maxHeartbeats 4000000 in
set_option maxRecDepth 100000 in
theorem tokText_any (A : Option Addr) (l : List Ite) (c : Nat) (w : World) (hR : NowE w A l) (hl : l.length * 24 ≤ 140737488351232) (hw : ∀ x ∈ l, I64 x.2.1) (hT : Tab w) :
    Calls Tryz.prog 17 #[.slice A l.length c] w (TextR l w) := by
  have HW := Lib.hid hw
  clear hw
  go_enter Tryz.func17, Tryz.ntmps17
  go_wp2
  go_loopw [8] (fun i wr => ∃ k : Nat, k ≤ l.length ∧ i = .int .i64 k ∧ Hid (Bld wr w.heap.size w.heap.size (textE (l.take k))) ∧ Below w.heap.size w wr) (fun i _ => l.length - (intOf i).toNat)
  case atStart => exact ⟨0, Nat.zero_le _, rfl, bld_new w, (Below.refl _ _).alloc (Nat.le_refl _) _⟩
  case round =>
    obtain ⟨k, hk, rfl, HB, hb⟩ := hrel
    by_cases hlt : k < l.length
    · have hltz : (k : Int) < (l.length : Int) := by omega
      obtain ⟨b0, off, rfl, hbB, hcell⟩ := hR.at_ (by omega)
      have a0 := Qt.keep hb (hcell k hlt).1
      have a1 := Qt.keep hb (hcell k hlt).2.1
      have a2 := Qt.keep hb (hcell k hlt).2.2
      have hsucc := textE_succ hlt
      have hx64 := HW.out (l.getD k noE) (getD_memE hlt)
      have htl := textE_take_len k hk
      obtain ⟨⟨t, n, p⟩, hx⟩ : ∃ x, x = l.getD k noE := ⟨_, rfl⟩
      rw [← hx] at a0 a1 a2 hsucc hx64
      simp only at a0 a1 a2 hx64
      have HS := Lib.hid hsucc
      have hbox : (wr.alloc (.cells #[.int .u8 t.toNat, .int .i64 n, .int .i64 p] 61)).heap[wr.heap.size]? = some (.cells #[.int .u8 t.toNat, .int .i64 n, .int .i64 p] 61 (0, 0)) := heap_alloc_new wr _
      have HB0 := Lib.hid (Bld.below HB.out (show Below wr.heap.size wr (wr.alloc (.cells #[.int .u8 t.toNat, .int .i64 n, .int .i64 p] 61)) from (Below.refl _ _).alloc (Nat.le_refl _) _))
      have hb0 : Below w.heap.size w (wr.alloc (.cells #[.int .u8 t.toNat, .int .i64 n, .int .i64 p] 61)) := hb.alloc hb.size _
      have hbne : wr.heap.size ≠ w.heap.size := by
        have := (show Bld wr w.heap.size w.heap.size (textE (l.take k)) from HB.out)
        rcases this with h | h
        · have := h.lt; omega
        · have := h.lt; omega
      clear hcell hx hsucc HB
      go_wp2_with fail
      refine (right_any t n p _).mono ?_
      rintro e w1 ⟨rfl, hb1⟩
      have hbx1 := (hb1.block wr.heap.size (by simp)).trans hbox
      have HB1 := Lib.hid (HB0.out.below hb1)
      have hbb : Below w.heap.size w w1 := hb0.trans (hb1.mono hb0.size)
      clear hbox HB0 hb0 hb1 a0 a1 a2
      cases hok : okE (t, n, p) with
      | false =>
        have he : textE (l.take (k + 1)) = textE (l.take k) := by rw [HS.out, itemE_no hok, List.append_nil]
        have HE := Lib.hid he
        clear hok he HS
        go_wp2
        go_roundw
        case measure => simp [intOf]; omega
        case rel => exact ⟨k + 1, by omega, by go_num, (by rw [HE.out]; exact HB1.out), hbb⟩
      | true =>
        have e0 : w1.cell? ⟨wr.heap.size, 0, none⟩ = some (.int .u8 t.toNat) := by rw [Lib.cell_of_heap hbx1]; rfl
        have e1 : w1.cell? ⟨wr.heap.size, 1, none⟩ = some (.int .i64 n) := by rw [Lib.cell_of_heap hbx1]; rfl
        by_cases h1 : n = 1
        · subst h1
          have he : textE (l.take (k + 1)) = textE (l.take k) ++ [t] := by rw [HS.out, itemE_one hok rfl]
          have HE := Lib.hid he
          clear hok he HS
          go_wp2_with fail
          refine (wbyte_any _ _ _ t _ HB1.out (by omega) hbb.size).mono ?_
          rintro e w2 ⟨rfl, hB2, hb2, _⟩
          have HB2 := Lib.hid hB2
          clear hB2 HB1 e0 e1 hbx1
          go_wp2
          go_roundw
          case measure => simp [intOf]; omega
          case rel => exact ⟨k + 1, by omega, by go_num, (by rw [HE.out]; exact HB2.out), hbb.trans hb2⟩
        · have he : textE (l.take (k + 1)) = textE (l.take k) ++ (txt n).data.toList ++ [t] := by rw [HS.out, itemE_many hok h1, List.append_assoc]; rfl
          have hts : (txt n).size ≤ 19 := txt_size n
          have h1b : (n == 1) = false := by simpa using h1
          have h1c : (n != 1) = true := by simpa using h1
          have hT1 : Tab w1 := hT.below hbb
          have HE := Lib.hid he
          clear hok he HS h1
          go_wp2_with fail
          refine (text_any n _ hx64 hT1).mono ?_
          rintro e w2 ⟨rfl, hb2⟩
          have hbx2 := (hb2.block wr.heap.size (lt_of_heap hbx1)).trans hbx1
          have HB2 := Lib.hid (HB1.out.below hb2)
          have hbb2 : Below w.heap.size w w2 := hbb.trans (hb2.mono hbb.size)
          generalize txt n = s at hts HE
          have hsl : s.data.toList.length = s.size := (size_list s).symm
          go_wp2_with fail
          refine (wtext_any _ _ _ s _ HB2.out (by omega) hbb2.size).mono ?_
          rintro e w3 ⟨rfl, hB3, hb3, hk3⟩
          have hbx3 := box_kept hk3 hbx2 hbne
          have f0 : w3.cell? ⟨wr.heap.size, 0, none⟩ = some (.int .u8 t.toNat) := by rw [Lib.cell_of_heap hbx3]; rfl
          have hbb3 : Below w.heap.size w w3 := hbb2.trans hb3
          clear e0 e1 hbx1 hbx2 HB1 HB2 hb2 hb3 hk3
          go_wp2_with fail
          refine (wbyte_any _ _ _ t _ hB3 (by rw [List.length_append]; omega) hbb3.size).mono ?_
          rintro e w4 ⟨rfl, hB4, hb4, _⟩
          have HB4 := Lib.hid hB4
          clear hB4 hB3 f0 hbx3
          go_wp2
          go_roundw
          case measure => simp [intOf]; omega
          case rel => exact ⟨k + 1, by omega, by go_num, (by rw [HE.out]; exact HB4.out), hbb3.trans hb4⟩
    · have hltz : ¬ (k : Int) < (l.length : Int) := by omega
      have hfull : l.take k = l := List.take_of_length_le (by omega)
      have hB : Bld wr w.heap.size w.heap.size (textE l) := by have := HB.out; rwa [hfull] at this
      clear HB hfull
      go_wp2_with fail
      refine (told_any _ _ _ _ hB hb.size).mono ?_
      rintro e w2 ⟨rfl, hb2⟩
      go_wp2
      go_ret
      exact ⟨rfl, hb.trans hb2⟩
end Go.Proofs.YtacpncmdgkljdaaGreatDoor
namespace Go.Proofs.YtacpncmdgkljdaaGreatDoor
set_option linter.unusedVariables false
set_option linter.unusedSimpArgs false
open Go.RowKit Go.Sort

/-- The slice at A of l.length pairs of numbers reads as l, below block B. -/
def RdP (w : World) (B : Nat) (A : Option Addr) (l : List (Int × Int)) : Prop :=
  ∀ j, j < l.length → ∃ b off, A = some ⟨b, off, none⟩ ∧ b < B ∧ w.cell? ⟨b, off + j * 2, none⟩ = some (.int .i64 (l.getD j (0, 0)).1) ∧ w.cell? ⟨b, off + j * 2 + 1, none⟩ = some (.int .i64 (l.getD j (0, 0)).2)
theorem RdP.below {w w' : World} {B B' : Nat} {A : Option Addr} {l : List (Int × Int)} (h : RdP w B A l) (hb : Below B' w w') (hB : B ≤ B') : RdP w' B A l := fun j hj => by
  obtain ⟨b, off, e, hlt, h0, h1⟩ := h j hj
  have hx : b < B' := Nat.lt_of_lt_of_le hlt hB
  exact ⟨b, off, e, hlt, (hb.cell (p := ⟨b, off + j * 2, none⟩) hx).trans h0, (hb.cell (p := ⟨b, off + j * 2 + 1, none⟩) hx).trans h1⟩
theorem RdP.more {w : World} {B B' : Nat} {A : Option Addr} {l : List (Int × Int)} (h : RdP w B A l) (hB : B ≤ B') : RdP w B' A l := fun j hj => by
  obtain ⟨b, off, e, hlt, h0⟩ := h j hj
  exact ⟨b, off, e, by omega, h0⟩
theorem RdP.nil (w : World) (B : Nat) (A : Option Addr) : RdP w B A [] := fun j hj => absurd hj (Nat.not_lt_zero j)
theorem RdP.at_ {w : World} {B : Nat} {A : Option Addr} {l : List (Int × Int)} (h : RdP w B A l) (hn : 0 < l.length) :
    ∃ b off, A = some ⟨b, off, none⟩ ∧ b < B ∧ ∀ j, j < l.length → w.cell? ⟨b, off + j * 2, none⟩ = some (.int .i64 (l.getD j (0, 0)).1) ∧ w.cell? ⟨b, off + j * 2 + 1, none⟩ = some (.int .i64 (l.getD j (0, 0)).2) := by
  obtain ⟨b, off, e, hlt, _⟩ := h 0 hn
  refine ⟨b, off, e, hlt, fun j hj => ?_⟩
  obtain ⟨b', off', e', _, h0⟩ := h j hj
  rw [e] at e'
  injection e' with e'
  injection e' with e1 e2
  subst e1 e2
  exact h0
def NowP (w : World) (A : Option Addr) (l : List (Int × Int)) : Prop := RdP w w.heap.size A l
theorem NowP.below {w w' : World} {A : Option Addr} {l : List (Int × Int)} (h : NowP w A l) (hb : Below w.heap.size w w') : NowP w' A l := (RdP.below h hb (Nat.le_refl _)).more hb.size

/-! ### items of raw numbers -/
def tagN (n : Nat) : UInt8 := ([98, 111, 36] : List UInt8).getD n 0
def rawN (b : Int) : Nat := (1 + (if b % 9 = 0 then pickI b 1099511627776 else pickI b 5)).toNat
def rawI (x : Int × Int) : Itm := (tagN (pickI x.1 3).toNat, rawN x.2, 0)
def rawT (raw : List (Int × Int)) (k : Nat) : List Itm := (raw.take k).map rawI
def itemsL (raw : List (Int × Int)) : List Itm := rawT raw 40
theorem rawT_succ {raw : List (Int × Int)} {k : Nat} (h : k < raw.length) : rawT raw (k + 1) = rawT raw k ++ [rawI (raw.getD k (0, 0))] := by
  unfold rawT
  rw [List.take_succ_eq_append_getElem h, List.map_append, List.getD_eq_getElem?_getD, List.getElem?_eq_getElem h, Option.getD_some]
  rfl
theorem rawT_len (raw : List (Int × Int)) (k : Nat) : (rawT raw k).length ≤ k := by unfold rawT; rw [List.length_map, List.length_take]; omega
theorem rawT_stop {raw : List (Int × Int)} {k : Nat} (hk : k ≤ raw.length) (hk40 : k ≤ 40) (h : ¬ (k < raw.length ∧ k < 40)) : rawT raw k = itemsL raw := by
  unfold itemsL rawT
  by_cases h1 : k = 40
  · rw [h1]
  · have : k = raw.length := by omega
    rw [this, List.take_of_length_le (Nat.le_refl _), List.take_of_length_le (by omega)]
theorem tagN_good {n : Nat} (h : n < 3) : tagB (tagN n) = true := by
  match n, h with
  | 0, _ => rfl
  | 1, _ => rfl
  | 2, _ => rfl
theorem rawI_good (x : Int × Int) : goodI (rawI x) = true := by
  have h1 := pickI_bd x.1 3 (by omega)
  have h2 := pickI_bd x.2 1099511627776 (by omega)
  have h3 := pickI_bd x.2 5 (by omega)
  refine (goodI_iff _).2 ⟨tagN_good (by omega), ?_, ?_⟩
  · simp only [rawI, rawN]; split <;> omega
  · simp only [rawI, rawN]; split <;> omega
theorem itemsL_good (raw : List (Int × Int)) : ∀ x ∈ itemsL raw, goodI x = true := by
  intro x hx
  obtain ⟨y, _, rfl⟩ := List.mem_map.1 hx
  exact rawI_good y
theorem itemsL_len (raw : List (Int × Int)) : (itemsL raw).length ≤ 40 := rawT_len raw 40
theorem itemsL_at (raw : List (Int × Int)) : ∀ x ∈ itemsL raw, x.2.2 = 0 := by
  intro x hx
  obtain ⟨y, _, rfl⟩ := List.mem_map.1 hx
  rfl

theorem getD_memP {l : List (Int × Int)} {k : Nat} (h : k < l.length) : l.getD k (0, 0) ∈ l := by
  rw [List.getD_eq_getElem?_getD, List.getElem?_eq_getElem h]
  exact List.getElem_mem h
theorem rem9 (b : Int) : (Int.tmod b 9 == 0) = decide (b % 9 = 0) := by
  rw [Bool.eq_iff_iff, beq_iff_eq, decide_eq_true_eq]
  constructor
  · intro h; exact Int.emod_eq_zero_of_dvd (Int.dvd_of_tmod_eq_zero h)
  · intro h; exact Int.tmod_eq_zero_of_dvd (Int.dvd_of_emod_eq_zero h)

end Go.Proofs.YtacpncmdgkljdaaGreatDoor
namespace Go.Proofs.YtacpncmdgkljdaaGreatDoor
open Go.Lib

def gapN (n : Nat) : List UInt8 := ([[], [32], [10], [9, 13, 32]] : List (List UInt8)).getD n []
def gapL (bl : List Int) (k : Nat) : List UInt8 := if k < bl.length then gapN (pickI (bl.getD k 0) 4).toNat else []
def noI : Itm := (0, 0, 0)
def spaced (I : List Itm) (bl : List Int) : Nat → List UInt8
  | 0 => []
  | k + 1 => spaced I bl k ++ gapL bl k ++ itemL (I.getD k noI)
def placed (I : List Itm) (bl : List Int) (j : Nat) : Itm := ((I.getD j noI).1, (I.getD j noI).2.1, (spaced I bl j ++ gapL bl j).length)
def placedL (I : List Itm) (bl : List Int) (k : Nat) : List Itm := (List.range k).map (placed I bl)
theorem placedL_succ (I : List Itm) (bl : List Int) (k : Nat) : placedL I bl (k + 1) = placedL I bl k ++ [placed I bl k] := by
  unfold placedL
  rw [List.range_succ, List.map_append]
  rfl
theorem placedL_len (I : List Itm) (bl : List Int) (k : Nat) : (placedL I bl k).length = k := by simp [placedL]
theorem gapN_blank {n : Nat} : ∀ c ∈ gapN n, blankB c = true := by
  intro c hc
  match n with
  | 0 => cases hc
  | 1 => simp [gapN] at hc; subst hc; rfl
  | 2 => simp [gapN] at hc; subst hc; rfl
  | 3 => simp [gapN] at hc; rcases hc with rfl | rfl | rfl <;> rfl
  | n + 4 => simp [gapN] at hc
theorem gapN_len (n : Nat) : (gapN n).length ≤ 3 := by
  match n with
  | 0 => simp [gapN]
  | 1 => simp [gapN]
  | 2 => simp [gapN]
  | 3 => simp [gapN]
  | n + 4 => simp [gapN]
theorem gapL_blank (bl : List Int) (k : Nat) : ∀ c ∈ gapL bl k, blankB c = true := by
  unfold gapL
  split
  · exact gapN_blank
  · intro c hc; cases hc
theorem gapL_len (bl : List Int) (k : Nat) : (gapL bl k).length ≤ 3 := by
  unfold gapL
  split
  · exact gapN_len _
  · simp
theorem itemL_len (x : Itm) : (itemL x).length ≤ 14 := by rw [← itemE_up]; exact itemE_len _
theorem spaced_len (I : List Itm) (bl : List Int) (k : Nat) : (spaced I bl k).length ≤ 17 * k := by
  induction k with
  | zero => simp [spaced]
  | succ k ih =>
    have h1 := gapL_len bl k
    have h2 := itemL_len (I.getD k noI)
    simp only [spaced, List.length_append]
    omega
theorem lex_gap (g : List UInt8) (h : ∀ c ∈ g, blankB c = true) (q : List UInt8) (p : Nat) (acc : List Itm) : lexL (g ++ q) p acc = lexL q (p + g.length) acc := by
  induction g generalizing p with
  | nil => rfl
  | cons c g ih =>
    rw [List.cons_append, lex_blank (h c List.mem_cons_self), ih (fun d hd => h d (List.mem_cons_of_mem _ hd)), List.length_cons]
    congr 1
    omega
theorem lex_spaced (I : List Itm) (bl : List Int) (hI : ∀ x ∈ I, goodI x = true) (k : Nat) (hk : k ≤ I.length) (q : List UInt8) : lexL (spaced I bl k ++ q) 0 [] = lexL q (spaced I bl k).length (placedL I bl k) := by
  induction k generalizing q with
  | zero => simp [spaced, placedL]
  | succ k ih =>
    have hx : goodI (I.getD k noI) = true := by
      rw [List.getD_eq_getElem?_getD, List.getElem?_eq_getElem (by omega)]
      exact hI _ (List.getElem_mem _)
    simp only [spaced]
    rw [List.append_assoc, List.append_assoc, ih (by omega), lex_gap _ (gapL_blank bl k), lex_item hx, placedL_succ]
    simp only [List.length_append, placed]
theorem lexA_spaced (I : List Itm) (bl : List Int) (hI : ∀ x ∈ I, goodI x = true) (hn : I.length ≤ 40) (q : List UInt8) (hq : q.length ≤ 10) : lexA (spaced I bl I.length ++ 33 :: q) = (placedL I bl I.length, 0, (spaced I bl I.length).length) := by
  have h1 := spaced_len I bl I.length
  rw [lexA_short (by simp only [List.length_append, List.length_cons]; omega), lex_spaced I bl hI _ (Nat.le_refl _), lex_end]

theorem lexA_spaced2 (I : List Itm) (bl : List Int) (hI : ∀ x ∈ I, goodI x = true) (q : List UInt8) (hq : (spaced I bl I.length).length + q.length ≤ 19999) : lexA (spaced I bl I.length ++ 33 :: q) = (placedL I bl I.length, 0, (spaced I bl I.length).length) := by
  rw [lexA_short (by simp only [List.length_append, List.length_cons]; omega), lex_spaced I bl hI _ (Nat.le_refl _), lex_end]
theorem spaced_nil (I : List Itm) (k : Nat) (hk : k ≤ I.length) : spaced I [] k = textL (I.take k) := by
  induction k with
  | zero => simp [spaced, textL]
  | succ k ih =>
    have e : gapL [] k = [] := by unfold gapL; rw [if_neg (by simp)]
    rw [spaced, e, List.append_nil, ih (by omega), List.take_succ_eq_append_getElem (by omega), textL_append, List.getD_eq_getElem?_getD, List.getElem?_eq_getElem (by omega), Option.getD_some]
    simp [textL]
theorem spaced_text (I : List Itm) : spaced I [] I.length = textL I := by rw [spaced_nil I _ (Nat.le_refl _), List.take_of_length_le (Nat.le_refl _)]

/-- The items in memory, of which the first k have their places. -/
def midL (I : List Itm) (bl : List Int) (k : Nat) : List Itm := placedL I bl k ++ I.drop k
theorem midL_zero (I : List Itm) (bl : List Int) : midL I bl 0 = I := by simp [midL, placedL]
theorem midL_all (I : List Itm) (bl : List Int) : midL I bl I.length = placedL I bl I.length := by simp [midL]
theorem midL_len (I : List Itm) (bl : List Int) {k : Nat} (hk : k ≤ I.length) : (midL I bl k).length = I.length := by simp [midL, placedL_len]; omega
theorem midL_at (I : List Itm) (bl : List Int) {k : Nat} (hk : k < I.length) : ((midL I bl k).map up).getD k noE = up (I.getD k noI) := by
  rw [List.getD_eq_getElem?_getD, List.getElem?_map]
  unfold midL
  rw [List.getElem?_append_right (by rw [placedL_len]; exact Nat.le_refl _), placedL_len, Nat.sub_self, List.getElem?_drop, Nat.add_zero, List.getElem?_eq_getElem hk, List.getD_eq_getElem?_getD, List.getElem?_eq_getElem hk]
  rfl
theorem midL_set (I : List Itm) (bl : List Int) {k : Nat} (hk : k < I.length) : ((midL I bl k).map up).set k ((I.getD k noI).1, ((I.getD k noI).2.1 : Int), ((spaced I bl k ++ gapL bl k).length : Int)) = (midL I bl (k + 1)).map up := by
  have e : I.drop k = I.getD k noI :: I.drop (k + 1) := by
    rw [List.getD_eq_getElem?_getD, List.getElem?_eq_getElem hk]
    exact List.drop_eq_getElem_cons hk
  unfold midL
  rw [e, placedL_succ, List.map_append, List.map_append, List.map_append, List.append_assoc, List.set_append_right _ _ (by rw [List.length_map, placedL_len]; exact Nat.le_refl _), List.length_map, placedL_len, Nat.sub_self]
  rfl

end Go.Proofs.YtacpncmdgkljdaaGreatDoor
namespace Go.Proofs.YtacpncmdgkljdaaGreatDoor
open Go.Lib

theorem gap_nil (k : Nat) : gapL [] k = [] := by unfold gapL; rw [if_neg (by simp)]
theorem placed_nil (I : List Itm) {j : Nat} (hj : j ≤ I.length) : placed I [] j = ((I.getD j noI).1, (I.getD j noI).2.1, (textL (I.take j)).length) := by
  unfold placed
  rw [gap_nil, List.append_nil, spaced_nil I j hj]
theorem placedL_at (I : List Itm) {n j : Nat} (hj : j < n) : ((placedL I [] n).map up).getD j noE = up (placed I [] j) := by
  unfold placedL
  rw [List.getD_eq_getElem?_getD, List.getElem?_map, List.getElem?_map, List.getElem?_range hj]
  rfl
theorem getD_right {a b : List Itm} (j : Nat) : (a ++ b).getD (a.length + j) noI = b.getD j noI := by
  rw [List.getD_eq_getElem?_getD, List.getD_eq_getElem?_getD, List.getElem?_append_right (by omega)]
  congr 2
  omega

/-- what the two texts come to -/
structure Both (a b : List Itm) (S T : List UInt8) (P R : List Itm) : Prop where
  one : textE (a.map up) = S
  two : textE (b.map up) = T
  all : textE (a.map up ++ b.map up) = S ++ T
  slen : S.length ≤ 560
  tlen : T.length ≤ 560
  pcnt : (P.map up).length = a.length + b.length
  rcnt : (R.map up).length = b.length
  lex : lexA (S ++ T ++ [33]) = (P, 0, S.length + T.length)
  lexR : lexA (T ++ [33]) = (R, 0, T.length)
  item : ∀ j, j < b.length → ∃ (t : UInt8) (n q : Nat), (R.map up).getD j noE = (t, (n : Int), (q : Int)) ∧ (P.map up).getD (a.length + j) noE = (t, (n : Int), (q : Int) + (S.length : Int)) ∧ q ≤ 1000
theorem both_of {a b : List Itm} (ha : ∀ x ∈ a, goodI x = true) (hb : ∀ x ∈ b, goodI x = true) (hla : a.length ≤ 40) (hlb : b.length ≤ 40) :
    Both a b (textL a) (textL b) (placedL (a ++ b) [] (a ++ b).length) (placedL b [] b.length) := by
  have e1 : textE (a.map up) = textL a := textE_up a
  have e2 : textE (b.map up) = textL b := textE_up b
  have l1 := textE_len (a.map up)
  have l2 := textE_len (b.map up)
  rw [e1, List.length_map] at l1
  rw [e2, List.length_map] at l2
  have hab : ∀ x ∈ a ++ b, goodI x = true := fun x hx => by
    rcases List.mem_append.1 hx with h | h
    · exact ha x h
    · exact hb x h
  have et : textL (a ++ b) = textL a ++ textL b := textL_append a b
  refine ⟨e1, e2, by rw [textE_append, e1, e2], by omega, by omega, by rw [List.length_map, placedL_len, List.length_append], by rw [List.length_map, placedL_len], ?_, ?_, fun j hj => ?_⟩
  · have := lexA_spaced2 (a ++ b) [] hab [] (by rw [spaced_text, et, List.length_append]; simp; omega)
    have hlen2 : (textL a ++ textL b).length = (textL a).length + (textL b).length := List.length_append
    rw [spaced_text, et, hlen2] at this
    exact this
  · have := lexA_spaced2 b [] hb [] (by rw [spaced_text]; simp; omega)
    rw [spaced_text] at this
    exact this
  · have hq : (textL (b.take j)).length ≤ 1000 := by
      have := textE_take_len (l := b.map up) j (by rw [List.length_map]; omega)
      rw [← List.map_take, textE_up] at this
      omega
    refine ⟨(b.getD j noI).1, (b.getD j noI).2.1, (textL (b.take j)).length, ?_, ?_, hq⟩
    · rw [placedL_at b hj, placed_nil b (by omega)]
      rfl
    · rw [placedL_at (a ++ b) (by rw [List.length_append]; omega), placed_nil (a ++ b) (by rw [List.length_append]; omega), getD_right, List.take_append, List.take_of_length_le (by omega), textL_append, List.length_append, show a.length + j - a.length = j by omega]
      unfold up
      simp only [Prod.mk.injEq, true_and]
      omega

end Go.Proofs.YtacpncmdgkljdaaGreatDoor
namespace Go.Proofs.YtacpncmdgkljdaaGreatDoor
open Go.Lib

/-- What is known of a text that is refused. -/
structure Refused (X : List UInt8) (L : List Itm) (e : Int) (p : Nat) : Prop where
  none : L = []
  place : p ≤ X.length
  open_ : e = 31 → p = X.length
/-- What is known of a text that is read. -/
structure Taken (X : List UInt8) (L : List Itm) (p : Nat) : Prop where
  good : ∀ x ∈ L, goodI x = true
  small : (textL L).length ≤ 19999
  many : L.length ≤ 20000
  before : ∀ j, j < L.length → (L.getD j noI).2.2 < p
  rises : ∀ j, j + 1 < L.length → (L.getD j noI).2.2 < (L.getD (j + 1) noI).2.2
  again : lexA (textL L ++ [33]) = (placedL L [] L.length, 0, (textL L).length)
  opened : lexA (textL L) = ([], 31, (textL L).length)

theorem item_pos {x : Itm} (h : goodI x = true) : 1 ≤ (itemL x).length := by
  unfold itemL
  rw [if_pos h]
  simp
theorem text_pos {L : List Itm} (h : ∀ x ∈ L, goodI x = true) : L.length ≤ (textL L).length := by
  induction L with
  | nil => simp
  | cons x L ih =>
    have h1 := item_pos (h x List.mem_cons_self)
    have h2 := ih fun y hy => h y (List.mem_cons_of_mem _ hy)
    unfold textL at h2 ⊢
    rw [List.flatMap_cons, List.length_append, List.length_cons]
    omega
theorem lexA_bad {X : List UInt8} {L : List Itm} {e : Int} {p : Nat} (h : lexA X = (L, e, p)) (he : e ≠ 0) : Refused X L e p := by
  unfold lexA at h
  split at h
  · simp only [Prod.mk.injEq] at h
    obtain ⟨rfl, rfl, rfl⟩ := h
    exact ⟨rfl, Nat.zero_le _, fun h => absurd h (by decide)⟩
  · have hs := (lexL_shape X 0 []).2
    rw [h] at hs
    obtain ⟨h1, _, h3, h4⟩ := hs he
    simp only at h1 h3 h4
    exact ⟨h1, by omega, fun h => by have := h4 h; omega⟩
theorem lexA_good {X : List UInt8} {L : List Itm} {p : Nat} (h : lexA X = (L, 0, p)) : Taken X L p := by
  unfold lexA at h
  split at h
  · simp at h
  · rename_i hx
    have hs := (lexL_shape X 0 []).1
    rw [h] at hs
    obtain ⟨m, h1, h2, h3, h4, h5, h6⟩ := hs rfl
    simp only [List.nil_append] at h1 h4 h5 h6
    subst h1
    have hsm : (textL L).length ≤ 19999 := by omega
    have hmn := text_pos h2
    have hat : ∀ j, (hj : j < L.length) → L.getD j noI = L[j] := fun j hj => by rw [List.getD_eq_getElem?_getD, List.getElem?_eq_getElem hj]; rfl
    refine ⟨h2, hsm, by omega, fun j hj => ?_, fun j hj => ?_, ?_, lexA_open h2 (by omega)⟩
    · rw [hat j hj]; exact (h4 _ (List.getElem_mem hj)).2
    · rw [hat j (by omega), hat (j + 1) hj]
      exact List.pairwise_iff_getElem.1 h3 j (j + 1) (by omega) hj (by omega)
    · have := lexA_spaced2 L [] h2 [] (by rw [spaced_text]; simp; omega)
      rw [spaced_text] at this
      exact this
theorem placed_same (L : List Itm) {j : Nat} (hj : j < L.length) : ∃ (t : UInt8) (n a b : Nat), (L.map up).getD j noE = (t, (n : Int), (a : Int)) ∧ ((placedL L [] L.length).map up).getD j noE = (t, (n : Int), (b : Int)) ∧ a = (L.getD j noI).2.2 := by
  refine ⟨(L.getD j noI).1, (L.getD j noI).2.1, (L.getD j noI).2.2, (textL (L.take j)).length, ?_, ?_, rfl⟩
  · rw [List.getD_eq_getElem?_getD, List.getElem?_map, List.getElem?_eq_getElem hj, List.getD_eq_getElem?_getD, List.getElem?_eq_getElem hj]
    rfl
  · rw [placedL_at L hj, placed_nil L (by omega)]
    rfl

end Go.Proofs.YtacpncmdgkljdaaGreatDoor
namespace Go.Proofs.YtacpncmdgkljdaaGreatDoor
set_option linter.unusedVariables false
set_option linter.unusedSimpArgs false
open Go.RowKit Go.Sort

set_option maxHeartbeats 4000000 in
set_option maxRecDepth 100000 in
theorem rleParse_any (l : List UInt8) (w : World) (hl : l.length ≤ 9223372036854775807) (hM : Mx w) :
    Calls Tryz.prog 9 #[.string (str l)] w (SetR (parseP l) w) := by
  have hsz := str_size l
  by_cases hlong : 20000 < l.length
  · have e : parseP l = ([], 3, 0) := by unfold parseP; rw [if_pos hlong]
    rw [e]
    have hz : (20000 : Int) < ((str l).size : Int) := by omega
    clear e
    generalize str l = s at hz hsz
    go_enter Tryz.func9, Tryz.ntmps9
    go_wp2
    go_ret3
    exact setR_none (Below.refl _ _)
  · have hz : ¬ (20000 : Int) < ((str l).size : Int) := by omega
    have hrm := remarks_any l w (by omega) hM
    obtain ⟨k, hk, hh⟩ := hash_at l
    obtain ⟨r, hr⟩ : ∃ r, r = parseP l := ⟨_, rfl⟩
    rw [← hr]
    unfold parseP at hr
    rw [if_neg hlong] at hr
    rw [hh] at hr hrm
    simp only at hr hrm
    have hx := str_from l (k := k)
    have hcut := fun W (hM : Mx W) => cutS_any [10] (l.drop k) W (by decide) (by rw [List.length_drop]; omega) hM
    have hline := line_cut (l.drop k)
    have hkz : (k : Int) ≤ ((str l).size : Int) := by omega
    have hl2 : l.length ≤ 20000 := by omega
    clear hh hlong hl
    cases hln : lineL (l.drop k) with
    | none =>
      rw [hln] at hr
      simp only at hr
      subst hr
      rw [cutT_none (by rw [hline]; exact hln)] at hcut
      clear hline hln
      generalize str (l.drop k) = sk at *
      generalize str l = s at *
      generalize str [] = s0 at *
      go_enter Tryz.func9, Tryz.ntmps9
      go_wp2_with fail
      refine hrm.mono ?_
      rintro e w1 ⟨rfl, hb1⟩
      have hM1 := hM.below hb1
      go_wp2_with fail
      refine (hcut _ hM1).mono ?_
      rintro e w2 ⟨rfl, hb2⟩
      have hbb := Qt.more hb1 hb1.size hb2
      clear hcut hrm hb1 hb2 hM1
      go_wp2
      go_ret3
      exact setR_none hbb
    | some q =>
      obtain ⟨h, rr⟩ := q
      obtain ⟨hrr, hlen⟩ := line_drop hln
      rw [hln] at hr
      simp only at hr
      rw [cutT_some (by rw [hline]; exact hln)] at hcut
      have hhead := fun W (hM : Mx W) => isHead_any h W (by omega) hM
      clear hline hln
      cases hhd : headB h with
      | false =>
        rw [hhd] at hhead
        rw [if_pos hhd] at hr
        subst hr
        clear hhd hrr hlen
        generalize str (l.drop k) = sk at *
        generalize str l = s at *
        generalize str h = sh at *
        generalize str rr = sr at *
        go_enter Tryz.func9, Tryz.ntmps9
        go_wp2_with fail
        refine hrm.mono ?_
        rintro e w1 ⟨rfl, hb1⟩
        have hM1 := hM.below hb1
        go_wp2_with fail
        refine (hcut _ hM1).mono ?_
        rintro e w2 ⟨rfl, hb2⟩
        have hbb := Qt.more hb1 hb1.size hb2
        have hM2 := hM.below hbb
        clear hcut hrm hb1 hb2 hM1
        go_wp2_with fail
        refine (hhead _ hM2).mono ?_
        rintro e w3 ⟨rfl, hb3⟩
        have hbb3 := Qt.more hbb hbb.size hb3
        clear hhead hbb hb3 hM2
        go_wp2
        go_ret3
        exact setR_none hbb3
      | true =>
        rw [hhd] at hhead
        rw [if_neg (by rw [hhd]; decide)] at hr
        have hlex := fun W => lex_any rr W (by omega)
        have hshape := lexA_shape rr
        have hrs := str_size rr
        have hbg : (l.length : Int) - (rr.length : Int) = ((k + h.length + 1 : Nat) : Int) := by omega
        have hshp := lexL_shape rr 0 []
        rw [← lexA_short (by omega)] at hshp
        have hcnt : (lexA rr).1.length ≤ 1000000 ∧ (lexA rr).2.2 ≤ 20000 ∧ ∀ x ∈ (lexA rr).1, x.2.2 ≤ 20000 := by
          unfold Shaped at hshp
          by_cases h0 : (lexA rr).2.1 = 0
          · obtain ⟨m, m1, m2, _, m4, m5, m6⟩ := hshp.1 h0
            have := text_pos m2
            rw [m1]
            simp only [List.nil_append]
            refine ⟨by omega, by omega, fun x hx => ?_⟩
            have := m4 x hx
            omega
          · obtain ⟨m1, _, m3, _⟩ := hshp.2 h0
            rw [m1]
            simp only [List.length_nil]
            exact ⟨by omega, by omega, fun x hx => absurd hx (by simp)⟩
        clear hhd hrr hshp
        generalize lexA rr = z at *
        obtain ⟨I, x, p⟩ := z
        simp only at hr hshape hcnt
        unfold LexR at hlex
        simp only at hlex
        generalize str (l.drop k) = sk at *
        generalize str l = s at *
        generalize str h = sh at *
        generalize str rr = sr at *
        obtain ⟨q, hq⟩ : ∃ q : Nat, q = k + h.length + 1 := ⟨_, rfl⟩
        have hq2 : q ≤ 20000 := by omega
        rw [← hq] at hbg hr
        have hpz := hcnt.2.1
        have HBG := Lib.hid (And.intro hbg hrs)
        clear hq hlen hrs hbg
        by_cases hx0 : x = 0
        · subst hx0
          rw [if_neg (by decide)] at hr
          have HDR := Lib.hid (fun A c W (hR : NowE W A (I.map up)) => drawn_any A I c W hR (hshape rfl) hcnt.1)
          have hdshape := do_set I (hshape rfl)
          have hdb : (doL I st0).2.2 ≤ 20000 := by
            rcases hdshape with ⟨L, d1, _⟩ | ⟨e2, p2, d1, _, xx, hxx, hp2⟩
            · rw [d1]; simp
            · rw [d1]
              have := hcnt.2.2 xx hxx
              simp only
              omega
          have hgoodz : (doL I st0).2.1 = 0 → (doL I st0).2.2 = 0 := by
            rcases hdshape with ⟨L, d1, _⟩ | ⟨e2, p2, d1, d2, xx, hxx, hp2⟩
            · rw [d1]; exact fun _ => rfl
            · rw [d1]
              intro h0
              rcases d2 with h | h <;> (simp only at h0; omega)
          have hbadz : ¬ (doL I st0).2.1 = 0 → (doL I st0).1 = [] := by
            rcases hdshape with ⟨L, d1, _⟩ | ⟨e2, p2, d1, d2, xx, hxx, hp2⟩
            · rw [d1]; exact fun h => absurd rfl h
            · rw [d1]; exact fun _ => rfl
          clear hdshape hshape hcnt
          generalize doL I st0 = d at *
          obtain ⟨out, e2, p2⟩ := d
          simp only at hr hdb hgoodz hbadz
          unfold SetR at HDR
          simp only at HDR
          by_cases he2 : e2 = 0
          · subst he2
            obtain rfl := hgoodz rfl
            rw [if_pos rfl] at hr
            subst hr
            clear hgoodz hbadz hdb
            go_enter Tryz.func9, Tryz.ntmps9
            go_wp2_with fail
            refine hrm.mono ?_
            rintro e w1 ⟨rfl, hb1⟩
            have hM1 := hM.below hb1
            go_wp2_with fail
            refine (hcut _ hM1).mono ?_
            rintro e w2 ⟨rfl, hb2⟩
            have hbb := Qt.more hb1 hb1.size hb2
            have hM2 := hM.below hbb
            clear hcut hrm hb1 hb2 hM1
            go_wp2_with fail
            refine (hhead _ hM2).mono ?_
            rintro e w3 ⟨rfl, hb3⟩
            have hbb3 := Qt.more hbb hbb.size hb3
            clear hhead hbb hb3 hM2
            obtain ⟨hbg, hrs⟩ := HBG.out
            clear HBG
            go_wp2_with fail
            refine (hlex _).mono ?_
            rintro e w4 ⟨v, rfl, ⟨A, c, rfl, hRc, hR⟩, hb4⟩
            have hbb4 := Qt.more hbb3 hbb3.size hb4
            have hdr := HDR.out A c w4 hR
            clear hlex hbb3 hb4 HDR
            rw [List.length_map] at *
            go_wp2_with fail
            refine hdr.mono ?_
            rintro e w5 ⟨v5, rfl, hR5, hb5⟩
            have hbb5 := Qt.more hbb4 hbb4.size hb5
            clear hbb4 hb5 hdr
            obtain ⟨A5, c5, rfl, hc5, hr5⟩ := hR5
            have HR5 := Lib.hid hr5
            clear hr5
            go_wp2
            go_ret3
            exact ⟨_, rfl, ⟨A5, c5, rfl, hc5, HR5.out⟩, hbb5⟩
          · have hx1 : (e2 == 0) = false := by simpa using he2
            have hx2 : (e2 != 0) = true := by simpa using he2
            rw [if_neg he2] at hr
            subst hr
            obtain rfl := hbadz he2
            have hsum : ((q + p2 : Nat) : Int) = (q : Int) + (p2 : Int) := by omega
            clear hgoodz hbadz
            go_enter Tryz.func9, Tryz.ntmps9
            go_wp2_with fail
            refine hrm.mono ?_
            rintro e w1 ⟨rfl, hb1⟩
            have hM1 := hM.below hb1
            go_wp2_with fail
            refine (hcut _ hM1).mono ?_
            rintro e w2 ⟨rfl, hb2⟩
            have hbb := Qt.more hb1 hb1.size hb2
            have hM2 := hM.below hbb
            clear hcut hrm hb1 hb2 hM1
            go_wp2_with fail
            refine (hhead _ hM2).mono ?_
            rintro e w3 ⟨rfl, hb3⟩
            have hbb3 := Qt.more hbb hbb.size hb3
            clear hhead hbb hb3 hM2
            obtain ⟨hbg, hrs⟩ := HBG.out
            clear HBG
            go_wp2_with fail
            refine (hlex _).mono ?_
            rintro e w4 ⟨v, rfl, ⟨A, c, rfl, hRc, hR⟩, hb4⟩
            have hbb4 := Qt.more hbb3 hbb3.size hb4
            have hdr := HDR.out A c w4 hR
            clear hlex hbb3 hb4 HDR
            rw [List.length_map] at *
            go_wp2_with fail
            refine hdr.mono ?_
            rintro e w5 ⟨v5, rfl, hR5, hb5⟩
            have hbb5 := Qt.more hbb4 hbb4.size hb5
            clear hbb4 hb5 hdr
            obtain ⟨A5, c5, rfl, hc5, hr5⟩ := hR5
            clear hr5
            go_wp2
            go_ret3
            have hfin := setR_none (x := e2) (p := q + p2) hbb5
            rw [hsum] at hfin
            exact hfin
        · have hx1 : (x == 0) = false := by simpa using hx0
          have hx2 : (x != 0) = true := by simpa using hx0
          rw [if_pos hx0] at hr
          subst hr
          have hsum : ((q + p : Nat) : Int) = (q : Int) + (p : Int) := by omega
          clear hshape hcnt
          go_enter Tryz.func9, Tryz.ntmps9
          go_wp2_with fail
          refine hrm.mono ?_
          rintro e w1 ⟨rfl, hb1⟩
          have hM1 := hM.below hb1
          go_wp2_with fail
          refine (hcut _ hM1).mono ?_
          rintro e w2 ⟨rfl, hb2⟩
          have hbb := Qt.more hb1 hb1.size hb2
          have hM2 := hM.below hbb
          clear hcut hrm hb1 hb2 hM1
          go_wp2_with fail
          refine (hhead _ hM2).mono ?_
          rintro e w3 ⟨rfl, hb3⟩
          have hbb3 := Qt.more hbb hbb.size hb3
          clear hhead hbb hb3 hM2
          obtain ⟨hbg, hrs⟩ := HBG.out
          clear HBG
          go_wp2_with fail
          refine (hlex _).mono ?_
          rintro e w4 ⟨v, rfl, _, hb4⟩
          have hbb4 := Qt.more hbb3 hbb3.size hb4
          clear hlex hbb3 hb4
          go_wp2
          go_ret3
          have hfin := setR_none (x := x) (p := q + p) hbb4
          rw [hsum] at hfin
          exact hfin
end Go.Proofs.YtacpncmdgkljdaaGreatDoor
namespace Go.Proofs.YtacpncmdgkljdaaGreatDoor
set_option linter.unusedVariables false
set_option linter.unusedSimpArgs false
open Go.RowKit Go.Sort

theorem flE_set1 (l : List Ite) (k : Nat) (h : k < l.length) (x : Int) : (flE l).set (k * 3 + 1) (.int .i64 x) = flE (l.set k ((l.getD k noE).1, x, (l.getD k noE).2.2)) := by
  induction l generalizing k with
  | nil => exact absurd h (Nat.not_lt_zero k)
  | cons y l ih =>
    have e2 : ∀ (z : Ite) (m : List Ite), flE (z :: m) = .int .u8 z.1.toNat :: .int .i64 z.2.1 :: .int .i64 z.2.2 :: flE m := fun _ _ => rfl
    cases k with
    | zero => simp [e2]
    | succ k =>
      have e1 : (k + 1) * 3 + 1 = k * 3 + 1 + 1 + 1 + 1 := by omega
      rw [e1, e2]
      simp only [List.set_cons_succ, List.getD_cons_succ]
      rw [ih k (by simpa using h), e2]
theorem flE_set2 (l : List Ite) (k : Nat) (h : k < l.length) (x : Int) : (flE l).set (k * 3 + 2) (.int .i64 x) = flE (l.set k ((l.getD k noE).1, (l.getD k noE).2.1, x)) := by
  induction l generalizing k with
  | nil => exact absurd h (Nat.not_lt_zero k)
  | cons y l ih =>
    have e2 : ∀ (z : Ite) (m : List Ite), flE (z :: m) = .int .u8 z.1.toNat :: .int .i64 z.2.1 :: .int .i64 z.2.2 :: flE m := fun _ _ => rfl
    cases k with
    | zero => simp [e2]
    | succ k =>
      have e1 : (k + 1) * 3 + 2 = k * 3 + 2 + 1 + 1 + 1 := by omega
      rw [e1, e2]
      simp only [List.set_cons_succ, List.getD_cons_succ]
      rw [ih k (by simpa using h), e2]

/-- Where an own slice that is not empty lies, and that its cells may be written. -/
theorem ownE_at {w : World} {B : Nat} {v : Value} {l : List Ite} (h : OwnE w B v l) (hn : 0 < l.length) :
    ∃ g c, v = .slice (some ⟨g, 0, none⟩) l.length c ∧ B ≤ g ∧ l.length ≤ c ∧ (∀ j, w.frozen? ⟨g, j, none⟩ = false) ∧
      (∀ j, j < l.length → w.cell? ⟨g, j * 3, none⟩ = some (.int .u8 (l.getD j noE).1.toNat) ∧ w.cell? ⟨g, j * 3 + 1, none⟩ = some (.int .i64 (l.getD j noE).2.1) ∧ w.cell? ⟨g, j * 3 + 2, none⟩ = some (.int .i64 (l.getD j noE).2.2)) ∧
      (∀ k, k < l.length → ∀ x, OwnE (w.setCell ⟨g, k * 3 + 1, none⟩ (.int .i64 x)) B v (l.set k ((l.getD k noE).1, x, (l.getD k noE).2.2))) ∧
      (∀ k, k < l.length → ∀ x, OwnE (w.setCell ⟨g, k * 3 + 2, none⟩ (.int .i64 x)) B v (l.set k ((l.getD k noE).1, (l.getD k noE).2.1, x))) := by
  have hcells := fun g (e : v.ownBlock = some g) => World.ownsRow.cells h e
  rcases h.2 with ⟨_, h0⟩ | ⟨g, cap, cur, hv, hb, hh, hnc, hcap, hsz, htake⟩
  · omega
  · subst hv
    have key : ∀ (i : Nat) (u : Value) (m : List Ite), i < l.length * 3 → m.length = l.length → (flE l).set i u = flE m → OwnE (w.setCell ⟨g, i, none⟩ u) B (.slice (some ⟨g, 0, none⟩) l.length cap) m := by
      intro i u m hi hm he
      refine ⟨length_flE m, .inr ⟨g, cap, cur.setIfInBounds i u, by rw [hm], hb, ?_, by rw [hm]; exact hnc, hcap, by simpa using hsz, ?_⟩⟩
      · simp [World.setCell, Array.getElem?_modify, hh]
      · rw [Array.toList_setIfInBounds, hm, List.take_set, htake, he]
    refine ⟨g, cap, rfl, hb, hnc, fun j => Lib.frozen_of_heap hh j, fun j hj => ?_, fun k hk x => key _ _ _ (by omega) (by simp) (flE_set1 l k hk x), fun k hk x => key _ _ _ (by omega) (by simp) (flE_set2 l k hk x)⟩
    obtain ⟨f0, f1, f2⟩ := flE_get l j hj
    have hc := hcells g rfl
    have e : ∀ i, (⟨g, 0, none⟩ : Addr).add i = ⟨g, i, none⟩ := fun i => by rw [Addr.add_lit, Nat.zero_add]
    exact ⟨by rw [← e]; exact hc _ _ f0, by rw [← e]; exact hc _ _ f1, by rw [← e]; exact hc _ _ f2⟩

theorem ownE_set1 {w : World} {B g n c : Nat} {l : List Ite} (h : OwnE w B (.slice (some ⟨g, 0, none⟩) n c) l) {k : Nat} (hk : k < l.length) (x : Int) :
    OwnE (w.setCell ⟨g, k * 3 + 1, none⟩ (.int .i64 x)) B (.slice (some ⟨g, 0, none⟩) n c) (l.set k ((l.getD k noE).1, x, (l.getD k noE).2.2)) := by
  obtain ⟨g', c', hv, _, _, _, _, h1, _⟩ := ownE_at h (by omega)
  injection hv with e1 e2 e3
  injection e1 with e1
  injection e1 with e1
  subst e1
  exact h1 k hk x
theorem ownE_set2 {w : World} {B g n c : Nat} {l : List Ite} (h : OwnE w B (.slice (some ⟨g, 0, none⟩) n c) l) {k : Nat} (hk : k < l.length) (x : Int) :
    OwnE (w.setCell ⟨g, k * 3 + 2, none⟩ (.int .i64 x)) B (.slice (some ⟨g, 0, none⟩) n c) (l.set k ((l.getD k noE).1, (l.getD k noE).2.1, x)) := by
  obtain ⟨g', c', hv, _, _, _, _, _, h2⟩ := ownE_at h (by omega)
  injection hv with e1 e2 e3
  injection e1 with e1
  injection e1 with e1
  subst e1
  exact h2 k hk x

theorem OwnE.below {w w' : World} {B : Nat} {v : Value} {l : List Ite} (h : OwnE w B v l) (hb : Below w.heap.size w w') : OwnE w' B v l :=
  World.ownsRow.kept h (row := none) ⟨hb.os, hb.tape, hb.output, hb.size, fun k hk _ => hb.block k hk⟩ (by cases v.ownBlock <;> simp)

end Go.Proofs.YtacpncmdgkljdaaGreatDoor
namespace Go.Proofs.YtacpncmdgkljdaaGreatDoor
set_option linter.unusedVariables false
set_option linter.unusedSimpArgs false
open Go.RowKit Go.Sort

/-- items without places, as they lie -/
def ups (q : List Tn) : List Ite := (itemsT q).map up
theorem ups_len (q : List Tn) : (ups q).length = q.length := by unfold ups itemsT; simp
theorem ups_append (q r : List Tn) : ups (q ++ r) = ups q ++ ups r := by unfold ups itemsT; simp
theorem ups_one (t : UInt8) (n : Nat) : ups [(t, n)] = [(t, (n : Int), 0)] := rfl
theorem ups_last (q : List Tn) (t : UInt8) (n : Nat) : (ups (q ++ [(t, n)])).getD q.length noE = (t, (n : Int), 0) := by
  rw [ups_append, ups_one, List.getD_eq_getElem?_getD, List.getElem?_append_right (by rw [ups_len]; exact Nat.le_refl _), ups_len, Nat.sub_self]
  rfl
theorem ups_set (q : List Tn) (t : UInt8) (n m : Nat) : (ups (q ++ [(t, n)])).set q.length (t, (m : Int), 0) = ups (q ++ [(t, m)]) := by
  rw [ups_append, ups_append, ups_one, ups_one]
  simp [List.set_append, ups_len]

/-- what a call that works on items of its own leaves as it was -/
def MR (B : Nat) (w w' : World) : Prop := Below B w w' ∧ Lib.OthersKept 61 none w w'
theorem MR.refl (B : Nat) (w : World) : MR B w w := ⟨Below.refl _ _, Lib.OthersKept.refl _ _ _⟩
theorem MR.trans {B : Nat} {a b c : World} (h : MR B a b) (k : MR B b c) : MR B a c := ⟨h.1.trans k.1, h.2.trans k.2⟩
theorem MR.alloc {B : Nat} {a w : World} (h : MR B a w) (hB : B ≤ w.heap.size) (o : Obj) : MR B a (w.alloc o) := ⟨h.1.alloc hB o, h.2.alloc o⟩
theorem others_set {w : World} {g i T : Nat} {cs : Array Value} {fz : Nat × Nat} (u : Value) (h : w.heap[g]? = some (.cells cs T fz)) : Lib.OthersKept T none w (w.setCell ⟨g, i, none⟩ u) := by
  intro k o hk _ ho
  rw [Below.heap_setCell _ _ _ _ (fun e => by
    subst e
    rw [h] at hk
    exact ho cs fz (Option.some.inj hk).symm)]
  exact hk

def MoreR (B : Nat) (q : List Tn) (w : World) (e : Ending) (w' : World) : Prop := ∃ v', e = .returned v' ∧ OwnE w' B v' (ups q) ∧ MR B w w'

set_option maxHeartbeats 4000000 in
set_option maxRecDepth 100000 in
theorem more_any {w : World} {B : Nat} {v : Value} (q : List Tn) (t : UInt8) (n : Nat) (hO : OwnE w B v (ups q)) (hB : B ≤ w.heap.size) (hl : q.length ≤ 900000) (hq : ∀ x ∈ q, x.2 ≤ 4000000000000000000) (hn : n ≤ 4000000000000000000) :
    Calls Tryz.prog 42 #[v, .int .u8 t.toNat, .int .i64 n] w (MoreR B (putI q t n) w) := by
  obtain ⟨A, c, rfl⟩ := slice_of_own hO
  rw [ups_len] at hO ⊢
  have HO := Lib.hid hO
  by_cases h0 : n = 0
  · subst h0
    show Calls Tryz.prog 42 #[.slice A q.length c, .int .u8 t.toNat, .int .i64 0] w (MoreR B (putI q t 0) w)
    rw [putI_zero]
    clear hO hq
    go_enter Tryz.func42, Tryz.ntmps42
    go_wp2
    go_ret
    exact ⟨_, rfl, HO.out, MR.refl _ _⟩
  · have hz : ((n : Int) == 0) = false := beq_eq_false_iff_ne.2 (by omega)
    have hpush : ∀ (u : UInt8) (m : Nat), putI q t n = q ++ [(u, m)] → ∃ v' w', (Builtin.append_ #[47, 47] 47 #[.slice A q.length c, .slice (some ⟨w.heap.size, 0, none⟩) 1 1]).run Tryz.prog (w.alloc (.cells #[.int .u8 u.toNat, .int .i64 m, .int .i64 0] 61)) = .ok v' w' ∧ Hid (OwnE w' B v' (ups (putI q t n)) ∧ MR B w w') := by
      intro u m he
      have h1 := pushE_any (out := ups q) (u, (m : Int), 0) hB (v := .slice A q.length c) HO.out (by rw [ups_len]; omega)
      obtain ⟨v', w', hrun, hown, hgrow, hbel⟩ := h1
      refine ⟨v', w', hrun, ?_, hbel, ?_⟩
      · rw [he, ups_append, ups_one]; exact hown
      · refine ((Lib.OthersKept.refl _ _ w).alloc _).grown hgrow fun k hk => ?_
        obtain ⟨_, hlt2, cs, fz, hc⟩ := own_kind HO.out k hk
        exact ⟨cs, fz, (Lib.alloc_old w _ k hlt2).trans hc⟩
    rcases list_cases q with rfl | ⟨a, ⟨u, m⟩, rfl⟩
    · obtain ⟨v', w', hrun, HH⟩ := hpush t n (putI_first t n h0)
      have HRUN := Lib.hid hrun
      clear hO hpush hrun hq h0
      simp only [List.length_nil] at *
      generalize putI [] t n = z at *
      go_enter Tryz.func42, Tryz.ntmps42
      go_wp2_with (at_builtin; refine Lib.wpList_append_run _ rfl (.tmp 35) (.tmp 39) 47 47 rfl _ _ rfl rfl _ _ HRUN.out ?_)
      go_ret
      exact ⟨_, rfl, HH.out.1, HH.out.2⟩
    · have hlen : (a ++ [(u, m)]).length = a.length + 1 := by simp
      have hlast := ups_last a u m
      have hm : m ≤ 4000000000000000000 := hq (u, m) (by simp)
      obtain ⟨g, c', hv, hBg, hcc, hfr, hcells, hset1, _⟩ := ownE_at HO.out (by rw [ups_len, hlen]; omega)
      rw [ups_len] at hv hcells hset1 hcc
      injection hv with e1 e2 e3
      subst e1 e3
      have hk := hcells a.length (by omega)
      have hs1 := hset1 a.length (by omega)
      rw [hlast] at hk hs1
      simp only at hk hs1
      obtain ⟨k0, k1, _⟩ := hk
      have f1 := hfr (a.length * 3 + 1)
      obtain ⟨_, hlt2, cs, fz, hc⟩ := own_kind HO.out g rfl
      rw [hlen] at *
      have hsub : ((a.length + 1 : Nat) : Int) - 1 = (a.length : Int) := by omega
      have hge : (0 : Int) ≤ (a.length : Int) := by omega
      have hkz : a.length ≤ 900000 := by simp at hl; omega
      have hltk : a.length < a.length + 1 := by omega
      by_cases ht : u = t
      · subst ht
        have hsum : ((m + n : Nat) : Int) = (m : Int) + (n : Int) := by omega
        have hown : OwnE (w.setCell ⟨g, a.length * 3 + 1, none⟩ (.int .i64 ((m : Int) + (n : Int)))) B (.slice (some ⟨g, 0, none⟩) (a.length + 1) c) (ups (putI (a ++ [(u, m)]) u n)) := by
          have := hs1 ((m : Int) + (n : Int))
          rw [← hsum, ups_set] at this
          rw [putI_grow a u m n h0, ← hsum]
          exact this
        have hMR : MR B w (w.setCell ⟨g, a.length * 3 + 1, none⟩ (.int .i64 ((m : Int) + (n : Int)))) := ⟨(Below.refl _ _).setCell hBg _, others_set _ hc⟩
        have HF := Lib.hid (And.intro hown hMR)
        generalize putI (a ++ [(u, m)]) u n = z at *
        clear hO hpush hq h0 hlen hlast hcells hset1 hs1 hfr hc hown hMR HO hcc hsum
        generalize a.length = k at *
        go_enter Tryz.func42, Tryz.ntmps42
        go_wp2
        go_ret
        exact ⟨_, rfl, HF.out.1, HF.out.2⟩
      · obtain ⟨v', w', hrun, HH⟩ := hpush t n (putI_new a t u m n h0 ht)
        rw [hlen] at hrun
        have htz : ((u.toNat : Int) == (t.toNat : Int)) = false := beq_eq_false_iff_ne.2 (fun e => ht (UInt8.toNat_inj.1 (by omega)))
        have HRUN := Lib.hid hrun
        clear hO hpush hrun hq h0 hlen hlast hcells hset1 hs1 hfr hc HO hcc
        generalize putI (a ++ [(u, m)]) t n = z at *
        generalize a.length = k at *
        go_enter Tryz.func42, Tryz.ntmps42
        go_wp2_with (at_builtin; refine Lib.wpList_append_run _ rfl (.tmp 35) (.tmp 39) 47 47 rfl _ _ rfl rfl _ _ HRUN.out ?_)
        go_ret
        exact ⟨_, rfl, HH.out.1, HH.out.2⟩
end Go.Proofs.YtacpncmdgkljdaaGreatDoor
namespace Go.Proofs.YtacpncmdgkljdaaGreatDoor.Cel
open Go.RowKit Go.Sort

def aw0 : List (Int × Int) := [(1, 0), (0, 1), (1, 0)]
def aw1 : List (Int × Int) := [(1, 0), (0, 1)]
theorem aw_set : setL aw0 = aw1 := by decide
theorem aw_in : (aw0.any fun p => !inB p) = false := by decide
theorem aw_right : rightB aw1 = true := by decide
theorem aw_in1 : ∀ p ∈ aw1, inB p = true := by decide
theorem aw_rises : Rises aw1 := ((rightB_iff _).1 aw_right).2.2
theorem aw_out : outL (1, 0) aw1 = [(0, 1)] := by decide
theorem aw_sh : shL 5 (-5) aw1 = [(6, -5), (5, -4)] := by decide
theorem aw_shin : (shL 5 (-5) aw1).all inB = true := by decide
theorem aw_box : boxV aw1 = .agg #[.int .i64 0, .int .i64 0, .int .i64 2, .int .i64 2] := by
  have h1 : loX aw1 aw1.length = 0 := by decide
  have h2 : hiX aw1 aw1.length = 1 := by decide
  unfold boxV
  rw [h1, h2]
  rfl

theorem aw_boxes (g : Nat) (w : World) (hR : Rd w w.heap.size (some ⟨g, 0, none⟩) aw1) :
    Calls Tryz.prog 15 #[.slice (some ⟨g, 0, none⟩) 2 2] w fun e w' => e = .returned (.tuple #[.agg #[.int .i64 0, .int .i64 0, .int .i64 2, .int .i64 2], .bool true]) ∧ Below w.heap.size w w' := by
  have h := box_any (some ⟨g, 0, none⟩) aw1 2 w hR (by decide) (by decide) (by decide) aw_right aw_in1
  rw [aw_box] at h
  exact h

/-- three cells laid in a new block -/
theorem rd_three (w : World) (T : Nat) : Rd (w.alloc (.cells #[.int .i64 1, .int .i64 0, .int .i64 0, .int .i64 1, .int .i64 1, .int .i64 0] T)) (w.alloc (.cells #[.int .i64 1, .int .i64 0, .int .i64 0, .int .i64 1, .int .i64 1, .int .i64 0] T)).heap.size (some ⟨w.heap.size, 0, none⟩) aw0 := fun j hj => by
  have hj3 : j < 3 := hj
  refine ⟨w.heap.size, 0, rfl, by simp, ?_, ?_⟩
  · match j, hj3 with
    | 0, _ => simp [aw0]
    | 1, _ => simp [aw0]
    | 2, _ => simp [aw0]
  · match j, hj3 with
    | 0, _ => simp [aw0]
    | 1, _ => simp [aw0]
    | 2, _ => simp [aw0]
theorem rd_one (w : World) (T : Nat) (x y : Int) : Rd (w.alloc (.cells #[.int .i64 x, .int .i64 y] T)) (w.alloc (.cells #[.int .i64 x, .int .i64 y] T)).heap.size (some ⟨w.heap.size, 0, none⟩) [(x, y)] := fun j hj => by
  have hj1 : j = 0 := by simp at hj; omega
  subst hj1
  exact ⟨w.heap.size, 0, rfl, by simp, by simp, by simp⟩
theorem rd_one_at (w : World) (T : Nat) (x y : Int) {B : Nat} (hB : B = w.heap.size) : Rd (w.alloc (.cells #[.int .i64 x, .int .i64 y] T)) (w.alloc (.cells #[.int .i64 x, .int .i64 y] T)).heap.size (some ⟨B, 0, none⟩) [(x, y)] := by
  subst hB; exact rd_one w T x y
theorem rd_two (w : World) (T : Nat) : Rd (w.alloc (.cells #[.int .i64 0, .int .i64 0, .int .i64 0, .int .i64 0] T)) (w.alloc (.cells #[.int .i64 0, .int .i64 0, .int .i64 0, .int .i64 0] T)).heap.size (some ⟨w.heap.size, 0, none⟩) [(0, 0), (0, 0)] := fun j hj => by
  have hj3 : j < 2 := hj
  refine ⟨w.heap.size, 0, rfl, by simp, ?_, ?_⟩
  · match j, hj3 with
    | 0, _ => simp
    | 1, _ => simp
  · match j, hj3 with
    | 0, _ => simp
    | 1, _ => simp

end Go.Proofs.YtacpncmdgkljdaaGreatDoor.Cel
namespace Go.Proofs.YtacpncmdgkljdaaGreatDoor.Cel
open Go.ChangeShapes Go.WideShapes Go.ChangeAt Go.RowKit Go.Deep

theorem exists_list {n : Nat} {Q : Nat → Int × Int → Prop} (h : ∀ i, i < n → ∃ p, Q i p) : ∃ l : List (Int × Int), l.length = n ∧ ∀ i, i < n → Q i (l.getD i (0, 0)) := by
  induction n with
  | zero => exact ⟨[], rfl, fun i hi => absurd hi (Nat.not_lt_zero i)⟩
  | succ n ih =>
    obtain ⟨l, hl, hq⟩ := ih fun i hi => h i (by omega)
    obtain ⟨p, hp⟩ := h n (by omega)
    refine ⟨l ++ [p], by simp [hl], fun i hi => ?_⟩
    by_cases hin : i < n
    · rw [List.getD_eq_getElem?_getD, List.getElem?_append_left (by omega), ← List.getD_eq_getElem?_getD]
      exact hq i hin
    · have : i = n := by omega
      subst this
      rw [List.getD_eq_getElem?_getD, List.getElem?_append_right (by omega), hl]
      simpa using hp

section
variable {H : Type} {enc : TypeId × Value → H} {w : World} {base : Nat} {spare : Nat → Bool} {held : Bool}

/-- An element of two cells, each a number. -/
def TwoInts (P : Program) (e : TypeId) : Prop := P.cellsOf e = 2 ∧ ∀ {H : Type} {enc : TypeId × Value → H} {w : World} {base : Nat} {spare : Nat → Bool} {held : Bool} (n : Nat) (cs : List Value) (y : DataW H × List MemPlace), DataW.trod enc P w base spare held n e cs = some y → ∃ a b, cs = [.int .i64 a, .int .i64 b] ∧ I64 a ∧ I64 b

theorem i64_of_wf {a : Int} (h : (Lit.int .i64 a).wf = true) : I64 a := by
  have : IntKind.i64.min ≤ a ∧ a ≤ IntKind.i64.max := by simpa [Lit.wf] using h
  simpa [I64, IntKind.min, IntKind.max, IntKind.signed, IntKind.bits] using this

theorem two_array {P : Program} {e t : TypeId} (he : P.underlying e = some (.array 2 t)) (ht : P.underlying t = some (.int .i64)) (h2 : P.cellsOf e = 2) (h1 : P.cellsOf t = 1) : TwoInts P e := by
  refine ⟨h2, fun n cs y h => ?_⟩
  obtain ⟨xs, m, _, _, hlen, hxl, hx⟩ := DataW.trod_array he h
  rw [h2] at hlen
  obtain ⟨a, b, rfl⟩ : ∃ a b, cs = [a, b] := by
    match cs, hlen with
    | [a, b], _ => exact ⟨a, b, rfl⟩
  have x0 := hx 0 (by omega)
  have x1 := hx 1 (by omega)
  rw [h1] at x0 x1
  rw [List.getElem?_eq_getElem (by omega)] at x0 x1
  obtain ⟨u, hu, _, wu⟩ := DataW.trod_int ht x0
  obtain ⟨v, hv, _, wv⟩ := DataW.trod_int ht x1
  simp at hu hv
  exact ⟨u, v, by rw [hu, hv], i64_of_wf wu, i64_of_wf wv⟩

theorem two_struct {P : Program} {e t : TypeId} {f0 f1 : Field} (he : P.underlying e = some (.struct #[f0, f1])) (h0 : f0.type = t) (h1 : f1.type = t) (ht : P.underlying t = some (.int .i64)) (hone : oneCellFields P #[f0, f1] = true) (h2 : P.cellsOf e = 2) : TwoInts P e := by
  refine ⟨h2, fun n cs y h => ?_⟩
  obtain ⟨ys, m, hn, hy, hlen, hyl, hf⟩ := DataW.trod_struct he h
  rw [h2] at hlen
  obtain ⟨a, b, rfl⟩ : ∃ a b, cs = [a, b] := by
    match cs, hlen with
    | [a, b], _ => exact ⟨a, b, rfl⟩
  obtain ⟨o0, k0⟩ := hone_of hone 0 f0 rfl
  obtain ⟨o1, k1⟩ := hone_of hone 1 f1 rfl
  have x0 := hf 0 f0 rfl
  have x1 := hf 1 f1 rfl
  have hyl' : ys.length = 2 := by simpa using hyl
  rw [o0, k0, h0, List.getElem?_eq_getElem (by omega)] at x0
  rw [o1, k1, h1, List.getElem?_eq_getElem (by omega)] at x1
  obtain ⟨u, hu, _, wu⟩ := DataW.trod_int ht x0
  obtain ⟨v, hv, _, wv⟩ := DataW.trod_int ht x1
  simp at hu hv
  exact ⟨u, v, by rw [hu, hv], i64_of_wf wu, i64_of_wf wv⟩

/-- A slice of such pairs that came in. -/
theorem open_pairs {P : Program} {t e : TypeId} {fuel : Nat} {a0 : Option Addr} {len0 cap0 : Nat} {x : DataW H × List MemPlace} (ht : P.underlying t = some (.slice e)) (he : TwoInts P e) (h : DataW.trod enc P w base spare held fuel t [.slice a0 len0 cap0] = some x) :
    ∃ l : List (Int × Int), l.length = len0 ∧ len0 ≤ cap0 ∧ cap0 ≤ maxLen ∧ Rd w w.heap.size a0 l ∧ ∀ p ∈ l, I64 p.1 ∧ I64 p.2 := by
  rcases open_slice ht h with ⟨hcs, _⟩ | ⟨a, len, cap, m, n, D, Pl, hcs, hb, hl, hm, hmm, _, hi⟩
  · simp at hcs
    obtain ⟨rfl, rfl, rfl⟩ := hcs
    exact ⟨[], rfl, Nat.le_refl _, by simp [maxLen], Rd.nil _ _ _, fun p hp => by cases hp⟩
  · simp at hcs
    obtain ⟨rfl, rfl, rfl⟩ := hcs
    have hlm : len0 ≤ m := by rw [hmm]; split <;> omega
    have hq : ∀ i, i < len0 → ∃ p : Int × Int, (w.cell? (a.add (i * 2)) = some (.int .i64 p.1) ∧ w.cell? ((a.add (i * 2)).add 1) = some (.int .i64 p.2)) ∧ I64 p.1 ∧ I64 p.2 := by
      intro i hi'
      obtain ⟨cs', hc, ht'⟩ := hi i (by omega)
      rw [he.1] at hc
      obtain ⟨u, v, rfl, wu, wv⟩ := he.2 _ _ _ ht'
      obtain ⟨_, _, hat⟩ := World.cells?_some hc
      have h0 := hat 0 (by omega)
      have h1 := hat 1 (by omega)
      refine ⟨(u, v), ⟨?_, ?_⟩, wu, wv⟩
      · simpa [Addr.add] using h0
      · simpa using h1
    obtain ⟨l, hll, hlq⟩ := exists_list hq
    refine ⟨l, hll, hl, hm, fun j hj => ?_, fun p hp => ?_⟩
    · obtain ⟨⟨c0, c1⟩, _⟩ := hlq j (by omega)
      obtain ⟨b, off, spot⟩ := a
      have hspot : spot = none := by
        have := (hlq 0 (by omega)).1.1
        simpa [Addr.add] using World.cell?_spot this
      subst hspot
      rw [Addr.add_lit] at c0 c1
      rw [Addr.add_lit] at c1
      exact ⟨b, off, rfl, block_lt_of_cell c0, c0, c1⟩
    · obtain ⟨j, hj, rfl⟩ := List.getElem_of_mem hp
      have := (hlq j (by omega)).2
      rwa [List.getD_eq_getElem?_getD, List.getElem?_eq_getElem hj] at this
end

theorem twoArr : TwoInts Tryz.prog 62 := two_array Tryz.underlying62 Tryz.underlying3 (by kernel_rfl) (by kernel_rfl)
theorem own : ownKnob Tryz.prog.godebug = none := by kernel_rfl
theorem laidOut : laidOutB Tryz.prog = true := by kernel_rfl

end Go.Proofs.YtacpncmdgkljdaaGreatDoor.Cel
