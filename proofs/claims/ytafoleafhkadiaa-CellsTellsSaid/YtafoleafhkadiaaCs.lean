/-
  The library's Insert at places: one place more, in its place.
-/
import Derived.Test.YtafoleafhkadiaaCj
import Derived.Lib.AppendZerosOnto
import Derived.Laws.CopyRow
namespace Go.Proofs.Ytafoleafhkadiaa
open Go.RowKit Go.Sort

/-! ### copy of places -/
theorem run_copy_two {P : Program} (w : World) (dT sT ty elem : TypeId) (g o dLen dCap : Nat) (a : Addr) (sLen sCap : Nat) (cur : Array Value) (t : TypeId) (cs : List Value)
    (hu : P.underlying dT = some (.slice elem)) (hs : (P.info? elem).map (·.size) = some 2) (hg : w.heap[g]? = some (.cells cur t (0, 0))) (hn : cs.length = Nat.min sLen dLen * 2)
    (hsrc : ∀ j v, cs[j]? = some v → w.cell? (a.add j) = some v) (hfit : o + cs.length ≤ cur.size) (h1 : ∀ v ∈ cs, v.oneCell' = true) :
    (Builtin.copy_ #[dT, sT] ty #[.slice (some ⟨g, o, none⟩) dLen dCap, .slice (some a) sLen sCap]).run P w =
      .ok (goInt (Nat.min sLen dLen)) (w.setRow g (cur.toList.take o ++ cs ++ cur.toList.drop (o + cs.length)).toArray) := by
  have hl := run_loadCells_list (P := P) w a cs hsrc
  have hst := run_storeCells_at P g o t cs 0 cur w hg (by simpa using hfit) h1
  cases hq : P.info? elem with
  | none => simp [hq] at hs
  | some i =>
    have hi : i.size = 2 := by simpa [hq] using hs
    simp [Builtin.copy_, run_underlying hu, Builtin.lenOf, Builtin.firstCells, sizeOf, typeInfo, hq, hi, ← hn, hl, hst]

theorem wpList_copy_two (w : World) {P : Program} {ops : Array Oper} {rest : List Oper} {o : Oper} {a : Act} {Q : Exit → Act → World → Prop} (hgd : o.guard = none) (d s : Operand) (t t' : TypeId)
    (ho : o.op = .call { callee := .builtin .copy, args := #[d, s], argTypes := #[t, t'] }) (v u : Value) (hd : a.eval d = v) (hs : a.eval s = u) {v' : Value} {w' : World}
    (hr : (Builtin.copy_ #[t, t'] o.type #[v, u]).run P w = .ok v' w') (h : wpList P ops Q rest (a.put o.dst v') w') : wpList P ops Q (o :: rest) a w := by
  refine wpList_plain hgd fun K hK => ?_
  unfold Oper.wp
  simp [execOp, ho, resolve, invoke, builtin, hd, hs, hr, Result.andThen]
  exact hK _ _ h

theorem take_over {α : Type} (C m : List α) (a N : Nat) (h : a + m.length ≤ N) (hN : N ≤ C.length) : (C.take a ++ m ++ C.drop (a + m.length)).take N = (C.take N).take a ++ m ++ (C.take N).drop (a + m.length) := by
  have hl : (C.take a ++ m).length = a + m.length := by rw [List.length_append, List.length_take]; omega
  rw [List.take_append, hl, List.take_of_length_le (by omega), List.take_take, Nat.min_eq_left (by omega), List.drop_take]

theorem copy_row {w : World} {B T t g n cap : Nat} {l : List (Int × Int)} {P : Program} (h : Row w B T g n cap l) (k : Nat) (m : List (Int × Int)) (hk : k + m.length ≤ n) (ht : P.underlying t = some (.slice T)) (hs : (P.info? T).map (·.size) = some 2)
    (a : Addr) (dLen dCap sLen sCap : Nat) (hmin : Nat.min sLen dLen = m.length) (hsrc : ∀ j v, (fl m)[j]? = some v → w.cell? (a.add j) = some v) :
    ∃ w', (∀ ty, (Builtin.copy_ #[t, t] ty #[.slice (some ⟨g, k * 2, none⟩) dLen dCap, .slice (some a) sLen sCap]).run P w = .ok (goInt m.length) w') ∧ Row w' B T g n cap (l.take k ++ m ++ l.drop (k + m.length)) ∧ Below B w w' := by
  obtain ⟨hn, hlen, h' | ⟨g', cap', cur, hv, hB, hg, hnc, hcm, hcs, htake⟩⟩ := h
  · simp at h'
  · simp only [Value.slice.injEq, Option.some.injEq, Addr.mk.injEq, and_true, true_and] at hv
    obtain ⟨rfl, rfl⟩ := hv
    have hlm := length_fl m
    have hfit : k * 2 + (fl m).length ≤ cur.size := by rw [hcs, hlm]; omega
    refine ⟨w.setRow g (cur.toList.take (k * 2) ++ fl m ++ cur.toList.drop (k * 2 + (fl m).length)).toArray, fun ty => ?_, ?_, ?_⟩
    · have := run_copy_two (P := P) w t t ty T g (k * 2) dLen dCap a sLen sCap cur T (fl m) ht hs hg (by rw [hmin, hlm]) hsrc hfit (fl_cell1 m)
      rw [hmin] at this
      exact this
    · have hll : (l.take k ++ m ++ l.drop (k + m.length)).length = n := by simp [List.length_append, List.length_take, List.length_drop]; omega
      refine ⟨hll, by rw [length_fl, hll], .inr ⟨g, cap, _, rfl, hB, setRow_heap w g cur _ T _ hg, hnc, hcm, ?_, ?_⟩⟩
      · simp [List.length_append, List.length_take, List.length_drop, hcs]
        rw [hcs] at hfit
        omega
      · show List.take (n * 2) (List.take (k * 2) cur.toList ++ fl m ++ _) = _
        rw [take_over _ _ _ _ (by rw [hlm]; omega) (by rw [Array.length_toList, hcs]; omega), htake, fl_append, fl_append, fl_take, fl_drop, hlm, Nat.add_mul]
    · exact ⟨rfl, rfl, rfl, by simp, fun j hj => setRow_other w g j _ (by omega)⟩

/-! ### append(s[:i], make(S, k)...) where there is no room -/
theorem fl_zeros (n : Nat) : (Builtin.zeroCells #[.int .i64 0, .int .i64 0] n).toList = fl (List.replicate n (0, 0)) := by
  rw [← fl_replicate]
  rfl

theorem insert_grow {g i n : Nat} {l : List (Int × Int)} {w : World} {B : Nat} (hR : Row w B 62 g n n l) (hi : i < n) (hn : n ≤ 1000000) :
    ∃ w1 G, (∀ ty, (Builtin.append_ #[59, 3] ty #[.slice (some ⟨g, 0, none⟩) i n, .int .i64 ((n : Int) + 1 - (i : Int))]).run Try.prog w = .ok (.slice (some ⟨w.heap.size, 0, none⟩) (n + 1) G) w1) ∧
      Row w1 w.heap.size 62 w.heap.size (n + 1) G (l.take i ++ List.replicate (n + 1 - i) (0, 0)) ∧ Below w.heap.size w w1 ∧ n + 1 ≤ G ∧ G ≤ 9223372036854775807 := by
  obtain ⟨i0, hi0, hz0, hz1, hz2⟩ := info_parts infoPlace
  have hln := hR.1
  have hold : (Builtin.firstCells i0.size i (.slice (some ⟨g, 0, none⟩) i n)).run Try.prog w.drew = .ok (fl (l.take i)).toArray w.drew := by
    rw [hz1]
    refine run_firstCells_some w.drew 2 i ⟨g, 0, none⟩ i n (fl (l.take i)) (by rw [length_fl, List.length_take]; omega) fun j v hj => ?_
    rw [Addr.add_lit, Nat.zero_add]
    rw [fl_take, List.getElem?_take] at hj
    split at hj
    · have := World.ownsRow.cellAt hR.2 j (by omega)
      rw [hj] at this
      exact this
    · cases hj
  have hk : (n : Int) + 1 - (i : Int) = ((n + 1 - i : Nat) : Int) := by omega
  have hik : i + (n + 1 - i) = n + 1 := by omega
  have hge := grownCap_ge w (n + 1) n 62
  have hle := grownCap_le_maxLen w (n + 1) n 62 (by unfold maxLen; omega)
  refine ⟨w.drew.alloc (.cells ((fl (l.take i)).toArray ++ Builtin.zeroCells #[.int .i64 0, .int .i64 0] (n + 1 - i) ++ Builtin.zeroCells #[.int .i64 0, .int .i64 0] (grownCap w (n + 1) n 62 - (n + 1))) 62), grownCap w (n + 1) n 62, fun ty => ?_, ?_, ?_, hge, by unfold maxLen at hle; omega⟩
  · have h := Lib.run_append_grow_zeros (P := Try.prog) w 59 3 ty 62 i0 _ .i64 .i64 Try.underlying59 Try.underlying3 hi0 hz0 (some ⟨g, 0, none⟩) i n (fl (l.take i)) hold (n + 1 - i) (by omega) (by omega) (by omega) (by omega) (by rw [hz2]; omega) (by rw [hz2, hik]; exact growslice_fits (by omega) (by omega))
    rw [hik] at h
    rw [hk]
    simpa [Value.cells] using h
  · have hl2 : (l.take i ++ List.replicate (n + 1 - i) (0, 0)).length = n + 1 := by simp [List.length_append, List.length_take]; omega
    refine ⟨hl2, by rw [length_fl, hl2], .inr ⟨w.heap.size, _, _, rfl, Nat.le_refl _, heap_alloc_new _ _, hge, hle, ?_, ?_⟩⟩
    · simp [Builtin.zeroCells, length_fl, List.length_take]
      omega
    · rw [Array.toList_append, Array.toList_append, fl_zeros, List.take_append_of_le_length (by simp [length_fl, List.length_take]; omega), List.take_of_length_le (by simp [length_fl, List.length_take]; omega), fl_append]
  · exact (show Below w.heap.size w w.drew from ⟨rfl, rfl, rfl, Nat.le_refl _, fun _ _ => rfl⟩).alloc (Nat.le_refl _) _

theorem insert_end {w w3 : World} {B g i : Nat} {l : List (Int × Int)} {q : Int × Int} {v3 : Value} (hR : Row w B 62 g i i l) (hB : B ≤ w.heap.size) (h : w3.ownsRow B 62 2 v3 (i + 1) (fl l ++ [.int .i64 q.1, .int .i64 q.2])) (hg : w.grownBy w3 (some g)) :
    ∃ g' cap, v3 = .slice (some ⟨g', 0, none⟩) (i + 1) cap ∧ Row w3 B 62 g' (i + 1) cap (l ++ [q]) ∧ Below B w w3 := by
  have hgl := hR.lt
  have hln := hR.1
  have hb : Below B w w3 := (Below.refl _ _).grown hg hB (fun k e => by injection e with e; omega)
  rcases h.2 with ⟨_, h0⟩ | ⟨g', cap', cur, hv, _⟩
  · omega
  · subst hv
    refine ⟨g', cap', rfl, ⟨by rw [List.length_append, hln]; rfl, ?_⟩, hb⟩
    rw [fl_append]
    exact h

theorem insert_list {l : List (Int × Int)} {n i : Nat} (q : Int × Int) (hl : l.length = n) (hi : i < n) (Z : List (Int × Int)) (hZ : Z.length = n + 1 - i) :
    ((((l.take i ++ Z).take i ++ [q] ++ (l.take i ++ Z).drop (i + [q].length)).take (i + 1)) ++ l.drop i ++ ((l.take i ++ Z).take i ++ [q] ++ (l.take i ++ Z).drop (i + [q].length)).drop (i + 1 + (l.drop i).length)) = l.take i ++ q :: l.drop i := by
  have h1 : (l.take i).length = i := by rw [List.length_take]; omega
  have e1 : (l.take i ++ Z).take i = l.take i := by rw [List.take_append_of_le_length (by omega), List.take_of_length_le (by omega)]
  rw [e1]
  have h2 : (l.take i ++ [q]).length = i + 1 := by rw [List.length_append, h1]; rfl
  have h3 : ((l.take i ++ Z).drop (i + [q].length)).length = n - i := by rw [List.length_drop, List.length_append, h1, hZ]; simp; omega
  have h4 : ((l.take i ++ [q] ++ (l.take i ++ Z).drop (i + [q].length)).drop (i + 1 + (l.drop i).length)) = [] := by
    refine List.drop_eq_nil_of_le ?_
    rw [List.length_append, h2, h3, List.length_drop]
    omega
  rw [h4, List.append_nil, List.take_append_of_le_length (by omega), List.take_of_length_le (by omega), List.append_assoc]
  rfl

set_option maxHeartbeats 1000000 in
set_option maxRecDepth 100000 in
theorem insert_any (g i n vb : Nat) (l : List (Int × Int)) (q : Int × Int) (w : World) {B : Nat} (hB : B ≤ w.heap.size) (hR : Row w B 62 g n n l) (hn : n ≤ 2000) (hi : i ≤ n)
    (hq0 : w.cell? ⟨vb, 0, none⟩ = some (.int .i64 q.1)) (hq1 : w.cell? ⟨vb, 1, none⟩ = some (.int .i64 q.2)) :
    Calls Try.prog 48 #[.slice (some ⟨g, 0, none⟩) n n, .int .i64 (i : Nat), .slice (some ⟨vb, 0, none⟩) 1 1] w fun e w' =>
      ∃ g' cap, e = .returned (.slice (some ⟨g', 0, none⟩) (n + 1) cap) ∧ Row w' B 62 g' (n + 1) cap (l.take i ++ q :: l.drop i) ∧ Below B w w' := by
  obtain ⟨qx, qy⟩ := q
  have hsz2 : (Try.prog.info? 62).map (·.size) = some 2 := by obtain ⟨i0, hi0, _, h1, _⟩ := info_parts infoPlace; rw [hi0]; simp [h1]
  have hln := hR.1
  rcases Nat.lt_or_eq_of_le hi with hlt | heq
  · obtain ⟨w1, G, hap, hr1, hb1, hG, hG2⟩ := insert_grow hR hlt (by omega)
    have hv1 : ∀ j v, (fl [(qx, qy)])[j]? = some v → w1.cell? ((⟨vb, 0, none⟩ : Addr).add j) = some v := fun j v hj => by
      rw [Addr.add_lit, Nat.zero_add]
      match j, hj with
      | 0, hj => simp [fl] at hj; rw [← hj]; exact Qt.keep hb1 hq0
      | 1, hj => simp [fl] at hj; rw [← hj]; exact Qt.keep hb1 hq1
      | j + 2, hj => simp [fl] at hj
    obtain ⟨w2, hcp, hr2, hb2⟩ := copy_row (P := Try.prog) (t := 59) hr1 i [(qx, qy)] (by simp; omega) Try.underlying59 hsz2 ⟨vb, 0, none⟩ (n + 1 - i) (G - i) 1 1 (by show min 1 (n + 1 - i) = 1; omega) hv1
    have B2 := hb1.trans (hb2.mono (Nat.le_refl _))
    have HR2 := Lib.hid hr2
    have HR := Lib.hid hR
    have hni : ¬ n = i := by omega
    have hnz : ((i : Int) == (n : Int)) = false := beq_eq_false_iff_ne.2 (by omega)
    clear hr1 hr2 hv1 hR hq0 hq1
    go_enter Try.func48, Try.ntmps48
    go_wp2_with (first
      | (at_builtin; refine Lib.wpList_append_run _ rfl _ _ _ _ rfl _ _ rfl rfl _ _ (hap _) ?_)
      | (at_builtin; refine wpList_copy_two _ rfl _ _ _ _ rfl _ _ rfl rfl (hcp _) ?_))
    refine Qt.below_tail 8 (by kernel_rfl) (by kernel_rfl) ?_
    simp only [List.take_succ_cons, List.take_zero, List.drop_succ_cons, List.drop_zero]
    repeat (go_big_quiet_step (fail))
    refine wpQuiet_nil ?_
    intro w3 hb3
    have hR3 := HR2.out.below hb3
    have hs3 := (HR.out.below (B2.trans (hb3.mono hb2.size |> fun h => h.mono (Nat.le_trans hb1.size (Nat.le_refl _))))).tail i
    have hdl : (l.drop i).length = n - i := by rw [List.length_drop, hln]
    obtain ⟨w4, hcp2, hr4, hb4⟩ := copy_row (P := Try.prog) (t := 59) hR3 (i + 1) (l.drop i) (by omega) Try.underlying59 hsz2 ⟨g, i * 2, none⟩ (n - i) (G - (i + 1)) (n - i) (n - i) (by rw [hdl]; show min (n - i) (n - i) = n - i; omega) hs3
    rw [insert_list (qx, qy) hln hlt _ (by simp)] at hr4
    have HR4 := Lib.hid hr4
    clear hR3 hs3 hdl hr4
    go_wp2_with (at_builtin; refine wpList_copy_two _ rfl _ _ _ _ rfl _ _ rfl rfl (hcp2 _) ?_)
    go_ret
    refine ⟨_, _, rfl, ?_, ?_⟩
    · have h4 := HR4.out
      have h5 := Own.mono (B' := B) (Row.own (by rw [← h4.1] at h4; exact h4)) hB
      exact ⟨h4.1, by unfold Own at h5; rw [h4.1] at h5; exact h5⟩
    · exact (B2.mono hB).trans ((hb3.mono (Nat.le_trans hB (Nat.le_trans hb1.size hb2.size))).trans (hb4.mono hB))
  · subst heq
    obtain ⟨i0, hi0, hz0, hz1, hz2⟩ := info_parts infoPlace
    have HR := Lib.hid hR
    have hv : ∀ j u, ([Value.int .i64 qx, .int .i64 qy] : List Value)[j]? = some u → w.cell? ((⟨vb, 0, none⟩ : Addr).add j) = some u := fun j v hj => by
      rw [Addr.add_lit, Nat.zero_add]
      match j, hj with
      | 0, hj => simp at hj; rw [← hj]; exact hq0
      | 1, hj => simp at hj; rw [← hj]; exact hq1
      | j + 2, hj => simp at hj
    have HV := Lib.hid hv
    clear hR hln hq0 hq1 hv
    go_enter Try.func48, Try.ntmps48
    go_wp2_with (at_builtin; refine wpList_append_own _ rfl (.tmp 23) (.tmp 24) 59 rfl B 62 i0 (.agg #[.int .i64 0, .int .i64 0]) 2 16 Try.underlying59 hi0 hz0 hz1 hz2 rfl (by decide) _ _ _ rfl HR.out.2 ⟨vb, 0, none⟩ 1 1 [.int .i64 qx, .int .i64 qy] rfl rfl HV.out one_cell (by unfold maxLen; omega) (by omega) hB ?_; intro v3 w3 hown3 hgrow hnn)
    have hg3 : w.grownBy w3 (some g) := hgrow
    obtain ⟨g', cap, hv3, hr3, hb3⟩ := insert_end (q := (qx, qy)) HR.out hB hown3 hg3
    have hli : l.length = i := HR.out.1
    clear hgrow hnn hown3 hg3
    subst hv3
    go_ret
    refine ⟨g', cap, rfl, ?_, hb3⟩
    rw [List.take_of_length_le (by omega), List.drop_eq_nil_of_le (by omega)]
    exact hr3

end Go.Proofs.Ytafoleafhkadiaa
