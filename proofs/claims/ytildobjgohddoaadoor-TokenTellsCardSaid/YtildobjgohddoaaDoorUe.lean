/-
  One item at the beginning of what is left: how often its tag stands, and what becomes of the reader.
-/
import Derived.Test.YtildobjgohddoaaDoorUd
namespace Go.Proofs.YtildobjgohddoaaDoor
set_option linter.unusedVariables false
set_option linter.unusedSimpArgs false
open Go.RowKit Go.Sort

/-- what digits ask for: none, one; too many, the error -/
def timesL (d : List UInt8) : Int × Int := if d = [] then (1, 0) else if 1099511627776 < val d then (0, 2) else (val d, 0)

theorem bad_no {d : List UInt8} (h0 : d ≠ []) (hd : ∀ c ∈ d, digB c = true) (hz : d.headD 0 ≠ 48) : badL d = false := by
  refine (badL_iff d).2 ⟨h0, ?_, hd⟩
  unfold zeroB
  cases d with
  | nil => rfl
  | cons c r =>
    simp only [List.headD_cons] at hz
    simp [hz]

set_option maxHeartbeats 1000000 in
theorem times_any (d : List UInt8) (w : World) (hl : d.length ≤ 1000000) (hd : ∀ c ∈ d, digB c = true) (hz : d.headD 0 ≠ 48) :
    Calls Tryd.prog 33 #[.string (str d)] w fun e w' => e = .returned (.tuple #[.int .i64 (timesL d).1, .int .i64 (timesL d).2]) ∧ Below w.heap.size w w' := by
  by_cases h0 : d = []
  · subst h0
    have hs0 : (str []).toList = [] := by rw [ByteArray.toList_eq]; rfl
    have hs1 : (str []).toList.isEmpty = true := by rw [hs0]; rfl
    have e : timesL [] = (1, 0) := rfl
    rw [e]
    generalize str [] = s at hs0 hs1 ⊢
    go_enter Tryd.func33, Tryd.ntmps33
    go_wp2
    all_goals go_ret2
    all_goals exact ⟨rfl, Below.refl _ _⟩
  · have hs0 : ¬ (str d).toList = [] := str_ne h0
    have hs1 : (str d).toList.isEmpty = false := by simpa using hs0
    have hb := bad_no h0 hd hz
    have hpa := fun W => parse_any (str d) W (by unfold maxLen; rw [str_size]; omega)
    rw [str_data] at hpa
    have ht : timesL d = if 1099511627776 < val d then (0, 2) else ((val d : Int), 0) := by unfold timesL; rw [if_neg h0]
    rw [ht]
    clear ht
    by_cases h62 : 4611686018427387903 < val d
    · have e : parseL d = (0, 21) := parse_big hb h62
      rw [e] at hpa
      rw [if_pos (by omega)]
      generalize str d = s at hs0 hs1 hpa ⊢
      go_enter Tryd.func33, Tryd.ntmps33
      go_wp2_with fail
      refine (hpa _).mono ?_
      rintro e w' ⟨rfl, hb⟩
      go_wp2
      go_ret2
      exact ⟨rfl, hb⟩
    · have e : parseL d = ((val d : Int), 0) := parse_ok hb h62
      rw [e] at hpa
      obtain ⟨v, hv⟩ : ∃ v, v = val d := ⟨_, rfl⟩
      rw [← hv] at hpa h62 ⊢
      clear e hb hv
      generalize str d = s at hs0 hs1 hpa ⊢
      by_cases h40 : 1099511627776 < v
      · rw [if_pos h40]
        have hz : (1099511627776 : Int) < (v : Int) := by omega
        go_enter Tryd.func33, Tryd.ntmps33
        go_wp2_with fail
        refine (hpa _).mono ?_
        rintro e w' ⟨rfl, hb⟩
        go_wp2
        go_ret2
        exact ⟨rfl, hb⟩
      · rw [if_neg h40]
        have hz : ¬ (1099511627776 : Int) < (v : Int) := by omega
        go_enter Tryd.func33, Tryd.ntmps33
        go_wp2_with fail
        refine (hpa _).mono ?_
        rintro e w' ⟨rfl, hb⟩
        go_wp2
        go_ret2
        exact ⟨rfl, hb⟩

/-! ### the parts of one item -/
theorem digs_len (l : List UInt8) : (l.takeWhile digB).length = digs l := rfl
theorem take_dig (l : List UInt8) : ∀ c ∈ l.takeWhile digB, digB c = true := fun c hc => List.all_eq_true.1 List.all_takeWhile c hc
theorem tag_mem (c : UInt8) : [98, 111, 36].contains c = tagB c := by unfold tagB; simp only [List.contains_cons, List.contains_nil, Bool.or_false, Bool.or_assoc]
theorem head_zero (l : List UInt8) : Lib.hasPrefix (l.takeWhile digB) [48] = decide (l.headD 0 = 48) := by
  unfold Lib.hasPrefix
  cases l with
  | nil => rfl
  | cons c r =>
    by_cases h : digB c = true
    · rw [List.takeWhile_cons, if_pos h]
      simp [List.isPrefixOf, eq_comm, Bool.beq_eq_decide_eq]
    · rw [List.takeWhile_cons, if_neg h]
      have : ¬ c = 48 := fun e => h (by rw [e]; decide)
      simp [List.isPrefixOf, this]
theorem one_bad {l : List UInt8} (h : inS [98, 111, 36] (l.dropWhile digB) = false) : oneL l = (30, 0, 0, 0) := by
  unfold oneL
  rw [drop_digs]
  cases hq : l.dropWhile digB with
  | nil => rfl
  | cons t q =>
    rw [hq] at h
    have ht : tagB t = false := by rw [← tag_mem]; exact h
    simp only
    rw [if_pos (.inl ht)]
theorem one_zero {l : List UInt8} (h : l.headD 0 = 48) : oneL l = (30, 0, 0, 0) := by
  unfold oneL
  cases hq : l.drop (digs l) with
  | nil => rfl
  | cons t q =>
    simp only
    rw [if_pos (.inr h)]
theorem one_ok {l q : List UInt8} {t : UInt8} (hq : l.dropWhile digB = t :: q) (ht : tagB t = true) (hz : l.headD 0 ≠ 48) :
    oneL l = if (timesL (l.takeWhile digB)).2 = 0 then (0, t, (timesL (l.takeWhile digB)).1.toNat, (l.takeWhile digB).length + 1) else (2, 0, 0, 0) := by
  unfold oneL
  rw [drop_digs, hq]
  simp only
  rw [if_neg (fun h => by rcases h with h | h; (rw [ht] at h; cases h); exact hz h), take_digs]
  unfold timesL digs
  by_cases h0 : l.takeWhile digB = []
  · rw [h0]
    simp
  · have : ¬ (l.takeWhile digB).length = 0 := fun e => h0 (List.eq_nil_of_length_eq_zero e)
    rw [if_neg this, if_neg h0]
    by_cases hv : 1099511627776 < val (l.takeWhile digB)
    · simp [hv]
    · simp [hv]
theorem times_bd (d : List UInt8) : (timesL d).2 = 0 → 0 ≤ (timesL d).1 ∧ (timesL d).1 ≤ 1099511627776 := by
  unfold timesL
  split
  · intro _; simp
  · split
    · intro h; exact absurd h (by decide)
    · intro _; simp only; omega
theorem times_err (d : List UInt8) : (timesL d).2 = 0 ∨ (timesL d).2 = 2 := by
  unfold timesL
  split
  · exact .inl rfl
  · split
    · exact .inr rfl
    · exact .inl rfl
theorem but_below {B b : Nat} {w w' : World} (h : But b w w') (hb : B ≤ b) (hw : B ≤ w.heap.size) : Below B w w' :=
  ⟨h.os, h.tape, h.output, h.size, fun k hk => h.block k (by omega) (fun e => by injection e with e; omega)⟩
theorem drop_one (l : List UInt8) {t : UInt8} {q : List UInt8} (hq : l.dropWhile digB = t :: q) : q = l.drop ((l.takeWhile digB).length + 1) := by
  rw [← List.drop_drop, digs_len, drop_digs, hq]
  rfl


/-- what item comes to -/
def ItemR (B b : Nat) (l : List UInt8) (p : Nat) (acc : List Itm) (w : World) (e : Ending) (w' : World) : Prop :=
  e = .returned (.tuple #[.int .i64 (oneL l).1, .int .i64 p]) ∧ Below B w w' ∧
    ((oneL l).1 = 0 → ∃ V, Rdr w' b (l.drop (oneL l).2.2.2) (p + (oneL l).2.2.2) V ∧ OwnE w' B V ((acc ++ [((oneL l).2.1, (oneL l).2.2.1, p)]).map up))

theorem own_ne {w : World} {B b : Nat} {V U : Value} {out : List Ite} {l : List UInt8} {p : Nat} (hR : Rdr w b l p U) (hO : OwnE w B V out) : V.ownBlock = none ∨ V.ownBlock ≠ some b := by
  cases hb : V.ownBlock with
  | none => exact .inl rfl
  | some g =>
    refine .inr fun e => ?_
    rcases hO.2 with ⟨rfl, _⟩ | ⟨g', cap, cur, rfl, _, hg, _⟩
    · cases hb
    · have hgb : g' = b := by
        simp only [Value.ownBlock, Option.some.injEq] at hb
        simp only [Option.some.injEq] at e
        omega
      subst hgb
      have := hg.symm.trans hR
      simp only [Option.some.injEq, Obj.cells.injEq] at this
      exact absurd this.2.1 (by decide)

set_option maxHeartbeats 4000000 in
set_option maxRecDepth 100000 in
theorem item_any (B b : Nat) (l : List UInt8) (p : Nat) (V : Value) (acc : List Itm) (w : World) (hR : Rdr w b l p V) (hO : OwnE w B V (acc.map up)) (hBb : B ≤ b) (hBw : B ≤ w.heap.size) (hp : l.length + p ≤ 20000) (ha : acc.length ≤ 20000) :
    Calls Tryd.prog 20 #[.pointer (some ⟨b, 0, none⟩)] w (ItemR B b l p acc w) := by
  have hpa := passAll_any b l [48, 49, 50, 51, 52, 53, 54, 55, 56, 57] digB p V w hR (by omega) (by decide) (by decide) mem_dig
  have c1 := hR.place
  have hlen := (drop_taken digB l).2.2
  have hdg := take_dig l
  generalize hr : oneL l = r at *
  unfold ItemR
  rw [hr]
  obtain ⟨r1, r2, r3, r4⟩ := r
  simp only
  have HR := Lib.hid hr
  have HO := Lib.hid hO
  clear hr hO
  by_cases hb : inS [98, 111, 36] (l.dropWhile digB) = false
  · have he := HR.out.symm.trans (one_bad hb)
    simp only [Prod.mk.injEq] at he
    obtain ⟨rfl, rfl, rfl, rfl⟩ := he
    have HB := Lib.hid hb
    clear hb HR
    go_enter Tryd.func20, Tryd.ntmps20
    go_wp2_with fail
    refine hpa.mono ?_
    rintro e w1 ⟨rfl, hR1, hB1⟩
    have hbel : Below B w w1 := but_below hB1 hBb hBw
    have hbg := begins_any b _ [98, 111, 36] _ V w1 hR1
    rw [HB.out] at hbg
    generalize str (l.takeWhile digB) = d at *
    go_wp2_with fail
    refine hbg.mono ?_
    rintro e w2 ⟨rfl, rfl⟩
    go_wp2
    go_ret2
    exact ⟨rfl, hbel, fun h => by cases h⟩
  · obtain ⟨t, q, hq, ht⟩ : ∃ t q, l.dropWhile digB = t :: q ∧ tagB t = true := by
      cases hq : l.dropWhile digB with
      | nil => rw [hq] at hb; exact absurd rfl hb
      | cons t q =>
        rw [hq] at hb
        refine ⟨t, q, rfl, ?_⟩
        rw [← tag_mem]
        exact (Bool.not_eq_false _).mp hb
    have hB1 : inS [98, 111, 36] (t :: q) = true := by show [98, 111, 36].contains t = true; rw [tag_mem]; exact ht
    have hpf := head_zero l
    rw [hq] at hpa hlen
    have HB1 := Lib.hid hB1
    have hql : (t :: q).length = q.length + 1 := rfl
    clear hb hB1
    by_cases hz : l.headD 0 = 48
    · have he := HR.out.symm.trans (one_zero hz)
      simp only [Prod.mk.injEq] at he
      obtain ⟨rfl, rfl, rfl, rfl⟩ := he
      rw [decide_eq_true hz] at hpf
      clear HR
      generalize l.takeWhile digB = d at *
      go_enter Tryd.func20, Tryd.ntmps20
      go_wp2_with fail
      refine hpa.mono ?_
      rintro e w1 ⟨rfl, hR1, hB1⟩
      have hbel : Below B w w1 := but_below hB1 hBb hBw
      have hbg := begins_any b _ [98, 111, 36] _ V w1 hR1
      rw [HB1.out] at hbg
      go_wp2_with fail
      refine hbg.mono ?_
      rintro e w2 ⟨rfl, rfl⟩
      have hhp := Any.strings_HasPrefix Tryd.lays99 (str d) (str [48]) w1
      rw [str_data, str_data, hpf] at hhp
      go_wp2_with fail
      refine hhp.mono ?_
      rintro e w2 ⟨rfl, rfl⟩
      go_wp2
      go_ret2
      exact ⟨rfl, hbel, fun h => by cases h⟩
    · have he := HR.out.symm.trans (one_ok hq ht hz)
      rw [decide_eq_false hz] at hpf
      have hdr := drop_one l hq
      have hdh : (l.takeWhile digB).headD 0 ≠ 48 := by
        intro e
        have h1 := head_zero l
        rw [decide_eq_false hz] at h1
        cases hd : l.takeWhile digB with
        | nil => rw [hd] at e; simp at e
        | cons c r =>
          rw [hd] at e h1
          simp only [List.headD_cons] at e
          subst e
          simp [Lib.hasPrefix, List.isPrefixOf] at h1
      have hti := fun W => times_any (l.takeWhile digB) W (by omega) hdg hdh
      have htb := times_bd (l.takeWhile digB)
      have hte := times_err (l.takeWhile digB)
      clear HR hdg hdh hz
      generalize l.takeWhile digB = d at *
      generalize timesL d = tn at *
      obtain ⟨n, x⟩ := tn
      simp only at he hti htb hte
      rcases hte with rfl | rfl
      · rw [if_pos rfl] at he
        simp only [Prod.mk.injEq] at he
        obtain ⟨rfl, h2, rfl, rfl⟩ := he
        have h2' := h2.symm
        subst h2'
        have htb' := htb rfl
        obtain ⟨m, rfl⟩ : ∃ m : Nat, n = m := ⟨n.toNat, by omega⟩
        rw [Int.toNat_natCast]
        clear htb
        go_enter Tryd.func20, Tryd.ntmps20
        go_wp2_with fail
        refine hpa.mono ?_
        rintro e w1 ⟨rfl, hR1, hB1⟩
        have hbel : Below B w w1 := but_below hB1 hBb hBw
        have hO1 : OwnE w1 B V (acc.map up) := World.ownsRow.kept HO.out hB1 (own_ne hR HO.out)
        have hbg := begins_any b _ [98, 111, 36] _ V w1 hR1
        rw [HB1.out] at hbg
        go_wp2_with fail
        refine hbg.mono ?_
        rintro e w2 ⟨rfl, rfl⟩
        have hhp := Any.strings_HasPrefix Tryd.lays99 (str d) (str [48]) w1
        rw [str_data, str_data, hpf] at hhp
        go_wp2_with fail
        refine hhp.mono ?_
        rintro e w2 ⟨rfl, rfl⟩
        go_wp2_with fail
        refine (hti _).mono ?_
        rintro e w2 ⟨rfl, hb2⟩
        have hR2 := hR1.below hb2
        have hO2 : OwnE w2 B V (acc.map up) := World.ownsRow.kept hO1 (But.of hb2) (own_ne hR1 hO1)
        have hbel2 : Below B w w2 := hbel.trans (hb2.mono (Nat.le_trans hBw hbel.size))
        have hps := pass_any b (t :: q) 1 (p + d.length) V w2 hR2 (by simp) (by omega)
        have e1 : (t :: q).take 1 = [t] := by simp
        have e2 : (t :: q).drop 1 = q := rfl
        rw [e1, e2] at hps
        clear hR1 hO1 hbel hb2 hB1 hbg hhp e1 e2
        go_wp2_with fail
        refine hps.mono ?_
        rintro e w3 ⟨rfl, hR3, hB3⟩
        have hO3 : OwnE w3 B V (acc.map up) := World.ownsRow.kept hO2 hB3 (own_ne hR2 hO2)
        have hbel3 : Below B w w3 := hbel2.trans (but_below hB3 hBb (Nat.le_trans hBw hbel2.size))
        have hB3w : B ≤ w3.heap.size := Nat.le_trans hBw hbel3.size
        have hs1 : 0 < (str [t]).size := by rw [str_size]; exact Nat.one_pos
        have hi1 : (str [t])[0]'hs1 = t := rfl
        generalize str [t] = s1 at hs1 hi1
        have c2 := hR3.items
        obtain ⟨V', w4, hrun, hown, hgrow, hbel4⟩ := pushE_any (t, (m : Int), (p : Int)) hB3w hO3 (by simp; omega)
        obtain ⟨ao, n', cap, rfl⟩ : ∃ ao n' cap, V' = .slice ao n' cap := by
          rcases hown.2 with ⟨hv, _⟩ | ⟨g, cap, cur, hv, _⟩
          · exact ⟨_, _, _, hv⟩
          · exact ⟨_, _, _, hv⟩
        have hne := own_ne hR3 hO3
        have hR4 : Rdr w4 b q (p + d.length + 1) V := by
          have h1 := hgrow.block b (by have := hR3.lt; simp; omega) (fun e => by rcases hne with h | h; (rw [h] at e; cases e); exact h e.symm)
          unfold Rdr
          rw [h1, Lib.alloc_old w3 _ b hR3.lt]
          exact hR3
        have c4 := hR4.items
        have f4 := hR4.free 2
        have hR5 := hR4.set2 (U := .slice ao n' cap)
        have hO5 := World.ownsRow.kept hown (But.setCell (b := b) 2 (.slice ao n' cap)) (own_ne hR4 hown)
        have hbel5 : Below B w (w4.setCell ⟨b, 2, none⟩ (.slice ao n' cap)) := (hbel3.trans hbel4).setCell hBb _
        have HR5 := Lib.hid hR5
        have HO5 := Lib.hid hO5
        have HB5 := Lib.hid hbel5
        have HRUN := Lib.hid hrun
        clear hR5 hO5 hbel5 hrun hown hgrow hbel4 hbel3 hbel2 hR2 hO2 hB3 hps hti hne
        go_wp2_with (at_builtin; refine Lib.wpList_append_run _ rfl (.tmp 46) (.tmp 51) 22 22 rfl _ _ rfl rfl _ _ HRUN.out ?_)
        go_ret2
        refine ⟨rfl, HB5.out, fun _ => ⟨.slice ao n' cap, ?_, ?_⟩⟩
        · rw [← hdr, ← Nat.add_assoc]; exact HR5.out
        · rw [List.map_append]; exact HO5.out
      · rw [if_neg (by decide)] at he
        simp only [Prod.mk.injEq] at he
        obtain ⟨rfl, rfl, rfl, rfl⟩ := he
        go_enter Tryd.func20, Tryd.ntmps20
        go_wp2_with fail
        refine hpa.mono ?_
        rintro e w1 ⟨rfl, hR1, hB1⟩
        have hbel : Below B w w1 := but_below hB1 hBb hBw
        have hbg := begins_any b _ [98, 111, 36] _ V w1 hR1
        rw [HB1.out] at hbg
        go_wp2_with fail
        refine hbg.mono ?_
        rintro e w2 ⟨rfl, rfl⟩
        have hhp := Any.strings_HasPrefix Tryd.lays99 (str d) (str [48]) w1
        rw [str_data, str_data, hpf] at hhp
        go_wp2_with fail
        refine hhp.mono ?_
        rintro e w2 ⟨rfl, rfl⟩
        go_wp2_with fail
        refine (hti _).mono ?_
        rintro e w2 ⟨rfl, hb2⟩
        have hbel2 : Below B w w2 := hbel.trans (hb2.mono (Nat.le_trans hBw hbel.size))
        clear hbel hb2 hB1 hbg hhp hti
        go_wp2
        go_ret2
        exact ⟨rfl, hbel2, fun h => by cases h⟩
end Go.Proofs.YtildobjgohddoaaDoor
