/-
  Texts that the claims of this seat share, part 24.
-/
import Derived.Test.YtikgnjcjbjafaaaB17
import Derived.Lib.AppendZerosOnto
import Derived.Laws.CopyRow
import Derived.Test.YtikgnjcjbjafaaaB22
import Derived.Test.YtikgnjcjbjafaaaB16
import Derived.Test.YtikgnjcjbjafaaaB01
import Derived.Test.YtikgnjcjbjafaaaB02
import Derived.Test.YtikgnjcjbjafaaaB23
import Derived.Test.YtikgnjcjbjafaaaB18
import Derived.Test.YtikgnjcjbjafaaaB15
set_option linter.unusedVariables false
set_option linter.unusedSimpArgs false
namespace Go.Proofs.Ytikgnjcjbjafaaa.Cel
open Go.RowKit Go.Sort

/-! ### copy of places -/
theorem run_copy_two {P : Program} (w : World) (dT sT ty elem : TypeId) (g o dLen dCap : Nat) (a : Addr) (sLen sCap : Nat) (cur : Array Value) (t : TypeId) (cs : List Value)
    (hu : P.underlying dT = some (.slice elem)) (hs : (P.info? elem).map (·.size) = some 2) (hg : w.heap[g]? = some (.cells cur t (0, 0))) (hn : cs.length = Nat.min sLen dLen * 2)
    (hsrc : ∀ j v, cs[j]? = some v → w.cell? (a.add j) = some v) (hfit : o + cs.length ≤ cur.size) (h1 : ∀ v ∈ cs, v.oneCell' = true) :
    (Builtin.copy_ #[dT, sT] ty #[.slice (some ⟨g, o, none⟩) dLen dCap, .slice (some a) sLen sCap]).run P w =
      .ok (goInt (Nat.min sLen dLen)) (w.setRow g (cur.toList.take o ++ cs ++ cur.toList.drop (o + cs.length)).toArray) := by
  have hl := run_loadCells_list (P := P) w a cs hsrc
  have hst := run_storeCells_at P g o t cs 0 cur w hg (by simpa using hfit) h1
  cases hq : P.info? elem with
  | none => simp [hq] at hs
  | some i =>
    have hi : i.size = 2 := by simpa [hq] using hs
    simp [Builtin.copy_, run_underlying hu, Builtin.lenOf, Builtin.firstCells, sizeOf, typeInfo, hq, hi, ← hn, hl, hst]

theorem wpList_copy_two (w : World) {P : Program} {ops : Array Oper} {rest : List Oper} {o : Oper} {a : Act} {Q : Exit → Act → World → Prop} (hgd : o.guard = none) (d s : Operand) (t t' : TypeId)
    (ho : o.op = .call { callee := .builtin .copy, args := #[d, s], argTypes := #[t, t'] }) (v u : Value) (hd : a.eval d = v) (hs : a.eval s = u) {v' : Value} {w' : World}
    (hr : (Builtin.copy_ #[t, t'] o.type #[v, u]).run P w = .ok v' w') (h : wpList P ops Q rest (a.put o.dst v') w') : wpList P ops Q (o :: rest) a w := by
  refine wpList_plain hgd fun K hK => ?_
  unfold Oper.wp
  simp [execOp, ho, resolve, invoke, builtin, hd, hs, hr, Result.andThen]
  exact hK _ _ h

theorem take_over {α : Type} (C m : List α) (a N : Nat) (h : a + m.length ≤ N) (hN : N ≤ C.length) : (C.take a ++ m ++ C.drop (a + m.length)).take N = (C.take N).take a ++ m ++ (C.take N).drop (a + m.length) := by
  have hl : (C.take a ++ m).length = a + m.length := by rw [List.length_append, List.length_take]; omega
  rw [List.take_append, hl, List.take_of_length_le (by omega), List.take_take, Nat.min_eq_left (by omega), List.drop_take]

theorem copy_row {w : World} {B T t g n cap : Nat} {l : List (Int × Int)} {P : Program} (h : Row w B T g n cap l) (k : Nat) (m : List (Int × Int)) (hk : k + m.length ≤ n) (ht : P.underlying t = some (.slice T)) (hs : (P.info? T).map (·.size) = some 2)
    (a : Addr) (dLen dCap sLen sCap : Nat) (hmin : Nat.min sLen dLen = m.length) (hsrc : ∀ j v, (fl m)[j]? = some v → w.cell? (a.add j) = some v) :
    ∃ w', (∀ ty, (Builtin.copy_ #[t, t] ty #[.slice (some ⟨g, k * 2, none⟩) dLen dCap, .slice (some a) sLen sCap]).run P w = .ok (goInt m.length) w') ∧ Row w' B T g n cap (l.take k ++ m ++ l.drop (k + m.length)) ∧ Below B w w' := by
  obtain ⟨hn, hlen, h' | ⟨g', cap', cur, hv, hB, hg, hnc, hcm, hcs, htake⟩⟩ := h
  · simp at h'
  · simp only [Value.slice.injEq, Option.some.injEq, Addr.mk.injEq, and_true, true_and] at hv
    obtain ⟨rfl, rfl⟩ := hv
    have hlm := length_fl m
    have hfit : k * 2 + (fl m).length ≤ cur.size := by rw [hcs, hlm]; omega
    refine ⟨w.setRow g (cur.toList.take (k * 2) ++ fl m ++ cur.toList.drop (k * 2 + (fl m).length)).toArray, fun ty => ?_, ?_, ?_⟩
    · have := run_copy_two (P := P) w t t ty T g (k * 2) dLen dCap a sLen sCap cur T (fl m) ht hs hg (by rw [hmin, hlm]) hsrc hfit (fl_cell1 m)
      rw [hmin] at this
      exact this
    · have hll : (l.take k ++ m ++ l.drop (k + m.length)).length = n := by simp [List.length_append, List.length_take, List.length_drop]; omega
      refine ⟨hll, by rw [length_fl, hll], .inr ⟨g, cap, _, rfl, hB, setRow_heap w g cur _ T _ hg, hnc, hcm, ?_, ?_⟩⟩
      · simp [List.length_append, List.length_take, List.length_drop, hcs]
        rw [hcs] at hfit
        omega
      · show List.take (n * 2) (List.take (k * 2) cur.toList ++ fl m ++ _) = _
        rw [take_over _ _ _ _ (by rw [hlm]; omega) (by rw [Array.length_toList, hcs]; omega), htake, fl_append, fl_append, fl_take, fl_drop, hlm, Nat.add_mul]
    · exact ⟨rfl, rfl, rfl, by simp, fun j hj => setRow_other w g j _ (by omega)⟩

/-! ### append(s[:i], make(S, k)...) where there is no room -/
theorem fl_zeros (n : Nat) : (Builtin.zeroCells #[.int .i64 0, .int .i64 0] n).toList = fl (List.replicate n (0, 0)) := by
  rw [← fl_replicate]
  rfl

theorem insert_grow {g i n : Nat} {l : List (Int × Int)} {w : World} {B : Nat} (hR : Row w B 122 g n n l) (hi : i < n) (hn : n ≤ 1000000) :
    ∃ w1 G, (∀ ty, (Builtin.append_ #[119, 3] ty #[.slice (some ⟨g, 0, none⟩) i n, .int .i64 ((n : Int) + 1 - (i : Int))]).run Try.prog w = .ok (.slice (some ⟨w.heap.size, 0, none⟩) (n + 1) G) w1) ∧
      Row w1 w.heap.size 122 w.heap.size (n + 1) G (l.take i ++ List.replicate (n + 1 - i) (0, 0)) ∧ Below w.heap.size w w1 ∧ n + 1 ≤ G ∧ G ≤ 9223372036854775807 := by
  obtain ⟨i0, hi0, hz0, hz1, hz2⟩ := info_parts infoPlace
  have hln := hR.1
  have hold : (Builtin.firstCells i0.size i (.slice (some ⟨g, 0, none⟩) i n)).run Try.prog w.drew = .ok (fl (l.take i)).toArray w.drew := by
    rw [hz1]
    refine run_firstCells_some w.drew 2 i ⟨g, 0, none⟩ i n (fl (l.take i)) (by rw [length_fl, List.length_take]; omega) fun j v hj => ?_
    rw [Addr.add_lit, Nat.zero_add]
    rw [fl_take, List.getElem?_take] at hj
    split at hj
    · have := World.ownsRow.cellAt hR.2 j (by omega)
      rw [hj] at this
      exact this
    · cases hj
  have hk : (n : Int) + 1 - (i : Int) = ((n + 1 - i : Nat) : Int) := by omega
  have hik : i + (n + 1 - i) = n + 1 := by omega
  have hge := grownCap_ge w (n + 1) n 122
  have hle := grownCap_le_maxLen w (n + 1) n 122 (by unfold maxLen; omega)
  refine ⟨w.drew.alloc (.cells ((fl (l.take i)).toArray ++ Builtin.zeroCells #[.int .i64 0, .int .i64 0] (n + 1 - i) ++ Builtin.zeroCells #[.int .i64 0, .int .i64 0] (grownCap w (n + 1) n 122 - (n + 1))) 122), grownCap w (n + 1) n 122, fun ty => ?_, ?_, ?_, hge, by unfold maxLen at hle; omega⟩
  · have h := Lib.run_append_grow_zeros (P := Try.prog) w 119 3 ty 122 i0 _ .i64 .i64 Try.underlying119 Try.underlying3 hi0 hz0 (some ⟨g, 0, none⟩) i n (fl (l.take i)) hold (n + 1 - i) (by omega) (by omega) (by omega) (by omega) (by rw [hz2]; omega) (by rw [hz2, hik]; exact growslice_fits (by omega) (by omega))
    rw [hik] at h
    rw [hk]
    simpa [Value.cells] using h
  · have hl2 : (l.take i ++ List.replicate (n + 1 - i) (0, 0)).length = n + 1 := by simp [List.length_append, List.length_take]; omega
    refine ⟨hl2, by rw [length_fl, hl2], .inr ⟨w.heap.size, _, _, rfl, Nat.le_refl _, heap_alloc_new _ _, hge, hle, ?_, ?_⟩⟩
    · simp [Builtin.zeroCells, length_fl, List.length_take]
      omega
    · rw [Array.toList_append, Array.toList_append, fl_zeros, List.take_append_of_le_length (by simp [length_fl, List.length_take]; omega), List.take_of_length_le (by simp [length_fl, List.length_take]; omega), fl_append]
  · exact (show Below w.heap.size w w.drew from ⟨rfl, rfl, rfl, Nat.le_refl _, fun _ _ => rfl⟩).alloc (Nat.le_refl _) _

theorem insert_end {w w3 : World} {B g i : Nat} {l : List (Int × Int)} {q : Int × Int} {v3 : Value} (hR : Row w B 122 g i i l) (hB : B ≤ w.heap.size) (h : w3.ownsRow B 122 2 v3 (i + 1) (fl l ++ [.int .i64 q.1, .int .i64 q.2])) (hg : w.grownBy w3 (some g)) :
    ∃ g' cap, v3 = .slice (some ⟨g', 0, none⟩) (i + 1) cap ∧ Row w3 B 122 g' (i + 1) cap (l ++ [q]) ∧ Below B w w3 := by
  have hgl := hR.lt
  have hln := hR.1
  have hb : Below B w w3 := (Below.refl _ _).grown hg hB (fun k e => by injection e with e; omega)
  rcases h.2 with ⟨_, h0⟩ | ⟨g', cap', cur, hv, _⟩
  · omega
  · subst hv
    refine ⟨g', cap', rfl, ⟨by rw [List.length_append, hln]; rfl, ?_⟩, hb⟩
    rw [fl_append]
    exact h

theorem insert_list {l : List (Int × Int)} {n i : Nat} (q : Int × Int) (hl : l.length = n) (hi : i < n) (Z : List (Int × Int)) (hZ : Z.length = n + 1 - i) :
    ((((l.take i ++ Z).take i ++ [q] ++ (l.take i ++ Z).drop (i + [q].length)).take (i + 1)) ++ l.drop i ++ ((l.take i ++ Z).take i ++ [q] ++ (l.take i ++ Z).drop (i + [q].length)).drop (i + 1 + (l.drop i).length)) = l.take i ++ q :: l.drop i := by
  have h1 : (l.take i).length = i := by rw [List.length_take]; omega
  have e1 : (l.take i ++ Z).take i = l.take i := by rw [List.take_append_of_le_length (by omega), List.take_of_length_le (by omega)]
  rw [e1]
  have h2 : (l.take i ++ [q]).length = i + 1 := by rw [List.length_append, h1]; rfl
  have h3 : ((l.take i ++ Z).drop (i + [q].length)).length = n - i := by rw [List.length_drop, List.length_append, h1, hZ]; simp; omega
  have h4 : ((l.take i ++ [q] ++ (l.take i ++ Z).drop (i + [q].length)).drop (i + 1 + (l.drop i).length)) = [] := by
    refine List.drop_eq_nil_of_le ?_
    rw [List.length_append, h2, h3, List.length_drop]
    omega
  rw [h4, List.append_nil, List.take_append_of_le_length (by omega), List.take_of_length_le (by omega), List.append_assoc]
  rfl

end Go.Proofs.Ytikgnjcjbjafaaa.Cel
namespace Go.Proofs.Ytikgnjcjbjafaaa.Cel
open Go.RowKit Go.Sort

theorem stands_put {l : List (Int × Int)} {t : Int × Int} {i : Nat} (hs : Rises l) (h : Stands l t i) (hn : t ∉ l) : l.take i ++ t :: l.drop i = putL t l := by
  refine rises_ext ?_ (rises_putL t hs) fun y => ?_
  · have hs' : Rises (l.take i ++ l.drop i) := by rw [List.take_append_drop]; exact hs
    obtain ⟨h1, h2, h3⟩ := List.pairwise_append.1 hs'
    refine List.pairwise_append.2 ⟨h1, List.pairwise_cons.2 ⟨fun y hy => ?_, h2⟩, fun x hx y hy => ?_⟩
    · obtain ⟨j, hj, rfl⟩ := List.getElem_of_mem hy
      rw [List.getElem_drop]
      rw [List.length_drop] at hj
      have e := h.high (i + j) (by omega) (by omega)
      rw [List.getD_eq_getElem?_getD, List.getElem?_eq_getElem (by omega), Option.getD_some] at e
      exact lessB_total (fun e2 => hn (e2 ▸ List.getElem_mem _)) e
    · rcases List.mem_cons.1 hy with rfl | hy
      · obtain ⟨j, hj, rfl⟩ := List.getElem_of_mem hx
        rw [List.getElem_take]
        rw [List.length_take] at hj
        have e := h.low j (by omega)
        rwa [List.getD_eq_getElem?_getD, List.getElem?_eq_getElem (by omega), Option.getD_some] at e
      · exact h3 x hx y hy
  · rw [mem_putL, List.mem_append, List.mem_cons]
    constructor
    · rintro (h | h | h)
      · exact .inr (List.mem_of_mem_take h)
      · exact .inl h
      · exact .inr (List.mem_of_mem_drop h)
    · rintro (h | h)
      · exact .inr (.inl h)
      · have : y ∈ l.take i ++ l.drop i := by rw [List.take_append_drop]; exact h
        rcases List.mem_append.1 this with h | h
        · exact .inl h
        · exact .inr (.inr h)
theorem put_in {l : List (Int × Int)} {t : Int × Int} (hs : Rises l) (h : t ∈ l) : putL t l = l :=
  rises_ext (rises_putL t hs) hs fun y => by
    rw [mem_putL]
    exact ⟨fun h' => h'.elim (fun e => e ▸ h) id, .inr⟩
theorem stands_in {l : List (Int × Int)} {t : Int × Int} {i : Nat} (h : i < l.length ∧ l.getD i (0, 0) = t) : t ∈ l := h.2 ▸ getD_mem h.1

/-- .. what comes out of it, as a list at a place of its own -/
def Fresh (w : World) (l : List (Int × Int)) (e : Ending) (w' : World) : Prop :=
  ∃ g, e = .returned (.tuple #[.slice (some ⟨g, 0, none⟩) l.length l.length, .int .i64 0]) ∧ Row w' w.heap.size 32 g l.length l.length l ∧ Below w.heap.size w w'

theorem fresh_told {w0 w w' : World} {l : List (Int × Int)} (hb : Below w0.heap.size w0 w) (hr : Row w' w.heap.size 32 w.heap.size l.length l.length l) (hb' : Below w.heap.size w w') :
    Fresh w0 l (.returned (.tuple #[.slice (some ⟨w.heap.size, 0, none⟩) l.length l.length, .int .i64 0])) w' :=
  ⟨_, rfl, ⟨hr.1, Own.mono (l := l) hr.2 hb.size⟩, Qt.more hb hb.size hb'⟩

end Go.Proofs.Ytikgnjcjbjafaaa.Cel
namespace Go.Proofs.Ytikgnjcjbjafaaa.Cel
open Go.RowKit Go.Sort

/-- what With answers of a list that is not too long -/
def withR (l : List (Int × Int)) (q : Int × Int) (al : Bool) : Int × List (Int × Int) :=
  if rightB l = true then (if inB q = true then (0, if al = true then putL q l else outL q l) else (2, [])) else (1, [])

theorem outL_take {l : List (Int × Int)} {k : Nat} (hk : k < l.length) (q : Int × Int) : outL q (l.take (k + 1)) = outL q (l.take k) ++ if l.getD k (0, 0) = q then [] else [l.getD k (0, 0)] := by
  rw [take_snoc hk]
  unfold outL
  rw [List.filter_append]
  congr 1
  generalize l.getD k (0, 0) = p
  by_cases h : p = q
  · rw [if_pos h, List.filter_cons_of_neg (by simpa using h)]; rfl
  · rw [if_neg h, List.filter_cons_of_pos (by simpa using h)]; rfl

set_option maxHeartbeats 1000000 in
set_option maxRecDepth 100000 in
theorem refWith_bad (A : Option Addr) (l : List (Int × Int)) (c : Nat) (q : Int × Int) (al : Bool) (w : World) (hR : Rd w w.heap.size A l) (hl : l.length ≤ 300) (hc : l.length ≤ c) (hr : rightB l = false) :
    Calls Try.prog 19 #[.slice A l.length c, .agg #[.int .i64 q.1, .int .i64 q.2], .bool al] w (Ans w (1, [])) := by
  obtain ⟨qx, qy⟩ := q
  have hb0 : Below w.heap.size w (w.alloc (.cells #[.int .i64 qx, .int .i64 qy] 32)) := (Below.refl _ w).alloc (Nat.le_refl _) _
  have h := refRight_any A l c (w.alloc (.cells #[.int .i64 qx, .int .i64 qy] 32)) ((hR.below hb0 (Nat.le_refl _)).more (by simp)) (by omega) hc
  rw [hr] at h
  clear hr
  go_enter Try.func19, Try.ntmps19
  go_wp2_with (go_at_call 56; refine h.mono ?_; rintro e w1 ⟨rfl, hb1⟩)
  go_ret2
  exact Ans.nil 1 (Qt.more hb0 hb0.size hb1)

set_option maxHeartbeats 1000000 in
set_option maxRecDepth 100000 in
theorem refWith_out (A : Option Addr) (l : List (Int × Int)) (c : Nat) (q : Int × Int) (al : Bool) (w : World) (hR : Rd w w.heap.size A l) (hl : l.length ≤ 300) (hc : l.length ≤ c) (hr : rightB l = true) (hq : inB q = false) :
    Calls Try.prog 19 #[.slice A l.length c, .agg #[.int .i64 q.1, .int .i64 q.2], .bool al] w (Ans w (2, [])) := by
  obtain ⟨qx, qy⟩ := q
  have hb0 : Below w.heap.size w (w.alloc (.cells #[.int .i64 qx, .int .i64 qy] 32)) := (Below.refl _ w).alloc (Nat.le_refl _) _
  have h := refRight_any A l c (w.alloc (.cells #[.int .i64 qx, .int .i64 qy] 32)) ((hR.below hb0 (Nat.le_refl _)).more (by simp)) (by omega) hc
  rw [hr] at h
  have hw0 : (w.alloc (.cells #[.int .i64 qx, .int .i64 qy] 32)).cell? ⟨w.heap.size, 0, none⟩ = some (.int .i64 qx) := by simp
  have hw1 : (w.alloc (.cells #[.int .i64 qx, .int .i64 qy] 32)).cell? ⟨w.heap.size, 1, none⟩ = some (.int .i64 qy) := by simp
  have HW0 := Lib.hid hw0
  have HW1 := Lib.hid hw1
  clear hr hw0 hw1
  go_enter Try.func19, Try.ntmps19
  go_wp2_with (first
    | (go_at_call 56; refine h.mono ?_; rintro e w1 ⟨rfl, hb1⟩; have q0 := Qt.keep hb1 HW0.out; have q1 := Qt.keep hb1 HW1.out)
    | (go_at_call 57; refine (refIn_no (qx, qy) hq _).mono ?_; rintro e w2 ⟨rfl, hb2⟩))
  go_ret2
  exact Ans.nil 2 (Qt.more hb0 hb0.size (Qt.more hb1 hb1.size hb2))

set_option maxHeartbeats 1000000 in
set_option maxRecDepth 100000 in
theorem refWith_on (A : Option Addr) (l : List (Int × Int)) (c : Nat) (q : Int × Int) (w : World) (hR : Rd w w.heap.size A l) (hl : l.length ≤ 300) (hc : l.length ≤ c) (hr : rightB l = true) (hq : inB q = true) :
    Calls Try.prog 19 #[.slice A l.length c, .agg #[.int .i64 q.1, .int .i64 q.2], .bool true] w (Ans w (0, putL q l)) := by
  obtain ⟨qx, qy⟩ := q
  have hb0 : Below w.heap.size w (w.alloc (.cells #[.int .i64 qx, .int .i64 qy] 32)) := (Below.refl _ w).alloc (Nat.le_refl _) _
  have hR0 := (hR.below hb0 (Nat.le_refl _)).more hb0.size
  have h := refRight_any A l c (w.alloc (.cells #[.int .i64 qx, .int .i64 qy] 32)) hR0 (by omega) hc
  rw [hr] at h
  have hw0 : (w.alloc (.cells #[.int .i64 qx, .int .i64 qy] 32)).cell? ⟨w.heap.size, 0, none⟩ = some (.int .i64 qx) := by simp
  have hw1 : (w.alloc (.cells #[.int .i64 qx, .int .i64 qy] 32)).cell? ⟨w.heap.size, 1, none⟩ = some (.int .i64 qy) := by simp
  have HW0 := Lib.hid hw0
  have HW1 := Lib.hid hw1
  have HR0 := Lib.hid hR0
  have HB0 := Lib.hid hb0
  have hpl : (putL (qx, qy) l).length ≤ l.length + 1 := length_putL_le _ _
  clear hr hw0 hw1 hR0 hb0 hR
  go_enter Try.func19, Try.ntmps19
  go_wp2_with (first
    | (go_at_call 56; refine h.mono ?_; rintro e w1 ⟨rfl, hb1⟩; have q0 := Qt.keep hb1 HW0.out; have q1 := Qt.keep hb1 HW1.out)
    | (go_at_call 57; refine (refIn_yes (qx, qy) hq _).mono ?_; rintro e w2 ⟨rfl, hb2⟩; have p0 := Qt.keep hb2 q0; have p1 := Qt.keep hb2 q1)
    | (go_at_call 39; refine (put_any A l c (qx, qy) _ (((HR0.out.below hb1 (Nat.le_refl _)).more hb1.size).below hb2 (Nat.le_refl _) |>.more hb2.size) (by omega) hc).mono ?_; rintro e w3 ⟨v3, rfl, hown, hb3⟩; obtain ⟨A3, c3, rfl, hc3, hr3⟩ := Own.rd hown; clear hown))
  have HR3 := Lib.hid hr3
  have HB3 := Lib.hid hb3
  obtain ⟨z, hz⟩ : ∃ z, z = putL (qx, qy) l := ⟨_, rfl⟩
  rw [← hz] at hpl hc3 HR3 ⊢
  have HZ := Lib.hid hz
  clear hz hr3 hb3
  go_loopw [8, 9] (fun v i wr => v = .slice A3 z.length c3 ∧ i = .int .i64 0 ∧ wr = w3) (fun _ _ _ => 0)
  case atStart => exact ⟨rfl, rfl, rfl⟩
  case round =>
    obtain ⟨rfl, rfl, rfl⟩ := hrel
    go_wp2
    all_goals go_ret2
    all_goals rw [← HZ.out]
    all_goals exact ⟨_, rfl, ⟨A3, c3, rfl, hc3, HR3.out⟩, Qt.more HB0.out HB0.out.size (Qt.more hb1 hb1.size (Qt.more hb2 hb2.size HB3.out))⟩

set_option maxHeartbeats 2000000 in
set_option maxRecDepth 100000 in
theorem refWith_off (A : Option Addr) (l : List (Int × Int)) (c : Nat) (q : Int × Int) (w : World) (hR : Rd w w.heap.size A l) (hl : l.length ≤ 300) (hc : l.length ≤ c) (hr : rightB l = true) (hq : inB q = true) :
    Calls Try.prog 19 #[.slice A l.length c, .agg #[.int .i64 q.1, .int .i64 q.2], .bool false] w (Ans w (0, outL q l)) := by
  obtain ⟨cx, cy⟩ := q
  obtain ⟨i0, hi, hz0, hz1, hz2⟩ := info_parts infoCell
  have hb0 : Below w.heap.size w (w.alloc (.cells #[.int .i64 cx, .int .i64 cy] 32)) := (Below.refl _ w).alloc (Nat.le_refl _) _
  have hR0 := (hR.below hb0 (Nat.le_refl _)).more hb0.size
  have h := refRight_any A l c (w.alloc (.cells #[.int .i64 cx, .int .i64 cy] 32)) hR0 (by omega) hc
  rw [hr] at h
  have hw0 : (w.alloc (.cells #[.int .i64 cx, .int .i64 cy] 32)).cell? ⟨w.heap.size, 0, none⟩ = some (.int .i64 cx) := by simp
  have hw1 : (w.alloc (.cells #[.int .i64 cx, .int .i64 cy] 32)).cell? ⟨w.heap.size, 1, none⟩ = some (.int .i64 cy) := by simp
  have hsz0 : w.heap.size < (w.alloc (.cells #[.int .i64 cx, .int .i64 cy] 32)).heap.size := by simp
  have HW0 := Lib.hid hw0
  have HW1 := Lib.hid hw1
  have HB0 := Lib.hid hb0
  have HS0 := Lib.hid hsz0
  clear hr hw0 hw1 hR0 hb0 hsz0
  go_enter Try.func19, Try.ntmps19
  go_wp2_with (first
    | (go_at_call 56; refine h.mono ?_; rintro e w1 ⟨rfl, hb1⟩; have q0 := Qt.keep hb1 HW0.out; have q1 := Qt.keep hb1 HW1.out)
    | (go_at_call 57; refine (refIn_yes (cx, cy) hq _).mono ?_; rintro e w2 ⟨rfl, hb2⟩; have p0 := Qt.keep hb2 q0; have p1 := Qt.keep hb2 q1))
  have HB2 := Lib.hid (Qt.more HB0.out HB0.out.size (Qt.more hb1 hb1.size hb2))
  have HS2 := Lib.hid (Nat.lt_of_lt_of_le HS0.out (Nat.le_trans hb1.size hb2.size))
  have HP0 := Lib.hid p0
  have HP1 := Lib.hid p1
  clear p0 p1 q0 q1 hb1 hb2 HB0 HS0 HW0 HW1 h
  go_loopw [8, 9] (fun v i wr => ∃ (k : Nat), k ≤ l.length ∧ i = .int .i64 k ∧ Own wr (w.heap.size + 1) 32 v (outL (cx, cy) (l.take k)) ∧
      wr.cell? ⟨w.heap.size, 0, none⟩ = some (.int .i64 cx) ∧ wr.cell? ⟨w.heap.size, 1, none⟩ = some (.int .i64 cy) ∧ Below w.heap.size w wr ∧ w.heap.size < wr.heap.size) (fun _ i _ => l.length - (intOf i).toNat)
  case atStart => exact ⟨0, Nat.zero_le _, rfl, World.ownsRow_nil _ _ _ _, HP0.out, HP1.out, HB2.out, HS2.out⟩
  case round =>
    obtain ⟨k, hk, rfl, hown, hcx, hcy, hb, hsz⟩ := hrel
    have hol : (outL (cx, cy) (l.take k)).length ≤ k := Nat.le_trans (List.length_filter_le _ _) (by rw [List.length_take]; omega)
    by_cases hlt : k < l.length
    · have hltz : (k : Int) < (l.length : Int) := by omega
      obtain ⟨b, off, rfl, hbB, hcell⟩ := hR.at_ (by omega)
      have HT := Lib.hid (outL_take hlt (cx, cy))
      obtain ⟨⟨x, y⟩, hxy⟩ : ∃ p, p = l.getD k (0, 0) := ⟨_, rfl⟩
      have a0 := (hcell k hlt).1
      have a1 := (hcell k hlt).2
      rw [← hxy] at a0 a1 HT
      simp only at a0 a1
      have c0 := Qt.keep hb a0
      have c1 := Qt.keep hb a1
      obtain ⟨out, ho⟩ : ∃ out, out = outL (cx, cy) (l.take k) := ⟨_, rfl⟩
      rw [← ho] at HT hown hol
      clear hxy hcell ho
      have k0 := Qt.cell_in hcx
      have k1 := Qt.cell_in hcy
      have k2 := Qt.cell_in c0
      have k3 := Qt.cell_in c1
      have hcase : (x = cx ∧ y = cy) ∨ (x = cx ∧ ¬ y = cy) ∨ ¬ x = cx := by
        by_cases h1 : x = cx <;> by_cases h2 : y = cy <;> simp [h1, h2]
      have HNE : Hid (¬ (x = cx ∧ y = cy) → outL (cx, cy) (l.take (k + 1)) = out ++ [(x, y)]) := (show ¬ (x = cx ∧ y = cy) → outL (cx, cy) (l.take (k + 1)) = out ++ [(x, y)] from fun hn => by
        rw [HT.out, if_neg]
        intro e
        simp only [Prod.mk.injEq] at e
        exact hn e)
      rcases hcase with ⟨rfl, rfl⟩ | ⟨rfl, hy⟩ | hx
      · go_wp2
        refine Qt.below_all (by kernel_rfl) (by kernel_rfl) ?_
        repeat (go_big_quiet_step (fail))
        refine wpQuiet_nil ?_
        intro w2 hb2
        clear k0 k1 k2 k3
        go_wp2
        go_roundw
        case measure => simp [intOf]; omega
        case rel =>
          refine ⟨k + 1, by omega, by go_num, ?_, Qt.keep hb2 hcx, Qt.keep hb2 hcy, Qt.more hb (Nat.le_of_lt hsz) hb2, Nat.lt_of_lt_of_le hsz hb2.size⟩
          rw [HT.out]
          simpa using hown.below hb2
      all_goals
        have HE := Lib.hid (HNE.out (by first | exact fun h => hy h.2 | exact fun h => hx h.1))
        obtain ⟨A2, c2, rfl, hc2, -⟩ := Own.rd hown
        go_wp2
        refine Qt.below_all (by kernel_rfl) (by kernel_rfl) ?_
        repeat (go_big_quiet_step (fail))
        refine wpQuiet_nil ?_
        intro w2 hb2
        have e2 := Qt.keep hb2 c0
        have e3 := Qt.keep hb2 c1
        clear k0 k1 k2 k3
        have hs2 := hb2.size
        go_wp2_with (at_builtin; refine wpList_append_own _ rfl (.tmp 36) (.tmp 41) 38 rfl (w.heap.size + 1) 32 i0 (.agg #[.int .i64 0, .int .i64 0]) 2 16 Try.underlying38 hi hz0 hz1 hz2 rfl (by decide) _ _ _ rfl (World.ownsRow.alloc (hown.below hb2) _) ⟨w2.heap.size, 0, none⟩ 1 1 [.int .i64 x, .int .i64 y] rfl rfl one_new one_cell (by unfold maxLen; omega) (by omega) (by simp; omega) ?_; intro v3 w3 hown3 hgrow _)
        have P := pushed (Qt.more hb (Nat.le_of_lt hsz) hb2) (Nat.lt_of_lt_of_le hsz hb2.size) (Qt.keep hb2 hcx) (Qt.keep hb2 hcy) (hown.below hb2) hown3 hgrow
        clear hown3 hgrow hown hcx hcy e2 e3
        go_wp2
        go_roundw
        case measure => simp [intOf]; omega
        case rel => exact ⟨k + 1, by omega, by go_num, HE.out ▸ P.1, P.2.1, P.2.2.1, P.2.2.2.1, P.2.2.2.2⟩
    · have hltz : ¬ (k : Int) < (l.length : Int) := by omega
      obtain rfl : k = l.length := by omega
      rw [List.take_length] at hown hol
      obtain ⟨A2, c2, rfl, hc2, hr2⟩ := Own.rd hown
      go_wp2
      go_ret2
      exact ⟨_, rfl, ⟨A2, c2, rfl, hc2, hr2⟩, hb⟩

theorem refWith_any (A : Option Addr) (l : List (Int × Int)) (c : Nat) (q : Int × Int) (al : Bool) (w : World) (hR : Rd w w.heap.size A l) (hl : l.length ≤ 300) (hc : l.length ≤ c) :
    Calls Try.prog 19 #[.slice A l.length c, .agg #[.int .i64 q.1, .int .i64 q.2], .bool al] w (Ans w (withR l q al)) := by
  unfold withR
  cases hr : rightB l
  · exact refWith_bad A l c q al w hR hl hc hr
  · rw [if_pos rfl]
    cases hq : inB q
    · exact refWith_out A l c q al w hR hl hc hr hq
    · rw [if_pos rfl]
      cases al
      · exact refWith_off A l c q w hR hl hc hr hq
      · exact refWith_on A l c q w hR hl hc hr hq

end Go.Proofs.Ytikgnjcjbjafaaa.Cel
namespace Go.Proofs.Ytikgnjcjbjafaaa.Cel
open Go.RowKit Go.Sort

theorem shL_shL (a b x y : Int) (l : List (Int × Int)) : shL x y (shL a b l) = shL (a + x) (b + y) l := by
  unfold shL
  rw [List.map_map]
  refine List.map_congr_left fun c _ => ?_
  simp only [Function.comp_apply, Prod.mk.injEq]
  omega
theorem shL_back (a b : Int) (l : List (Int × Int)) : shL (-a) (-b) (shL a b l) = l := by
  rw [shL_shL, show a + -a = 0 by omega, show b + -b = 0 by omega]
  unfold shL
  conv => rhs; rw [← List.map_id l]
  refine List.map_congr_left fun c _ => ?_
  simp
theorem rises_shL (x y : Int) {l : List (Int × Int)} (h : Rises l) : Rises (shL x y l) := by
  unfold shL Rises
  rw [List.pairwise_map]
  refine List.Pairwise.imp ?_ h
  intro p q hpq
  rw [lessB_iff] at *
  simp only
  omega
/-- A set near the middle. -/
def Near (l : List (Int × Int)) : Prop := l.length ≤ 60 ∧ Rises l ∧ ∀ p ∈ l, -8 ≤ p.1 ∧ p.1 ≤ 7 ∧ -8 ≤ p.2 ∧ p.2 ≤ 7
theorem rawSet_near (raw : List (Int × Int)) : Near (rawSet raw) := ⟨rawSet_len raw, rawSet_rises raw, fun _ hp => rawTo_bd ((mem_setL _ _).1 hp)⟩
def Far (x : Int) : Prop := -1099511627000 ≤ x ∧ x ≤ 1099511627000
theorem Near.far {l : List (Int × Int)} (h : Near l) {x y : Int} (hx : Far x) (hy : Far y) : rightB (shL x y l) = true := by
  unfold Far at hx hy
  refine (rightB_iff _).2 ⟨?_, fun c hc => ?_, rises_shL x y h.2.1⟩
  · rw [length_shL]; exact Nat.le_trans h.1 (by decide)
  · obtain ⟨p, hp, rfl⟩ := List.mem_map.1 hc
    have := h.2.2 p hp
    rw [inB_iff]
    simp only
    omega
theorem Near.right {l : List (Int × Int)} (h : Near l) : rightB l = true := by
  have := h.far (x := 0) (y := 0) ⟨by decide, by decide⟩ ⟨by decide, by decide⟩
  have e : shL 0 0 l = l := by
    unfold shL
    conv => rhs; rw [← List.map_id l]
    refine List.map_congr_left fun c _ => ?_
    simp
  rwa [e] at this
theorem all_of_right {l : List (Int × Int)} (h : rightB l = true) : ∀ p ∈ l, inB p = true := ((rightB_iff l).1 h).2.1

theorem loX_shL (x y : Int) {l : List (Int × Int)} (h0 : 0 < l.length) {k : Nat} (hk : k ≤ l.length) : loX (shL x y l) k = loX l k + x := by
  induction k with
  | zero => rw [loX_zero, loX_zero, getD_shL x y l h0]
  | succ k ih => rw [loX_succ (by rw [length_shL]; omega), loX_succ (by omega), ih (by omega), getD_shL x y l (by omega)]; omega
theorem hiX_shL (x y : Int) {l : List (Int × Int)} (h0 : 0 < l.length) {k : Nat} (hk : k ≤ l.length) : hiX (shL x y l) k = hiX l k + x := by
  induction k with
  | zero => rw [hiX_zero, hiX_zero, getD_shL x y l h0]
  | succ k ih => rw [hiX_succ (by rw [length_shL]; omega), hiX_succ (by omega), ih (by omega), getD_shL x y l (by omega)]; omega
theorem boxV_shL (x y : Int) {l : List (Int × Int)} (h0 : 0 < l.length) :
    boxV (shL x y l) = .agg #[.int .i64 (loX l l.length + x), .int .i64 ((l.getD 0 (0, 0)).2 + y), .int .i64 (hiX l l.length - loX l l.length + 1), .int .i64 ((l.getD (l.length - 1) (0, 0)).2 - (l.getD 0 (0, 0)).2 + 1)] := by
  unfold boxV
  rw [length_shL, loX_shL x y h0 (Nat.le_refl _), hiX_shL x y h0 (Nat.le_refl _), getD_shL x y l h0, getD_shL x y l (by omega)]
  have e1 : hiX l l.length + x - (loX l l.length + x) + 1 = hiX l l.length - loX l l.length + 1 := by omega
  have e2 : (l.getD (l.length - 1) (0, 0)).2 + y - ((l.getD 0 (0, 0)).2 + y) + 1 = (l.getD (l.length - 1) (0, 0)).2 - (l.getD 0 (0, 0)).2 + 1 := by omega
  simp only [e1, e2]

/-- A slice whose cells read as a list, now. -/
def Now (w : World) (A : Option Addr) (l : List (Int × Int)) : Prop := Rd w w.heap.size A l
theorem Now.below {w w' : World} {A : Option Addr} {l : List (Int × Int)} (h : Now w A l) (hb : Below w.heap.size w w') : Now w' A l := (Rd.below h hb (Nat.le_refl _)).more hb.size

theorem same_yes {A A' : Option Addr} {l m : List (Int × Int)} {n c c' : Nat} {w : World} (hR : Now w A l) (hR' : Now w A' m) (hn : n = l.length) (hl : n ≤ 1000000) (he : l = m) :
    Calls Try.prog 21 #[.slice A n c, .slice A' n c'] w fun e w' => e = .returned (.bool true) ∧ Below w.heap.size w w' := by
  subst hn he
  have := same_holds (c := c) (c' := c') hR hR' hl
  rwa [decide_eq_true rfl] at this

end Go.Proofs.Ytikgnjcjbjafaaa.Cel
namespace Go.Proofs.Ytikgnjcjbjafaaa.Cel
open Go.RowKit Go.Sort

theorem rightB_out {l : List (Int × Int)} (h : rightB l = true) (q : Int × Int) : rightB (outL q l) = true := by
  obtain ⟨h0, h1, h2⟩ := (rightB_iff l).1 h
  exact (rightB_iff _).2 ⟨Nat.le_trans (List.length_filter_le _ _) h0, fun c hc => h1 c (List.mem_filter.1 hc).1, List.Pairwise.filter _ h2⟩
theorem length_out {l : List (Int × Int)} (hs : Rises l) {i : Nat} (hi : i < l.length) : (outL (l.getD i (0, 0)) l).length + 1 = l.length := by
  rw [← stands_found hs hi rfl, List.length_append, List.length_take, List.length_drop]
  omega
theorem rightB_raw (raw : List (Int × Int)) {k : Nat} (hk : k ≤ 60) : rightB (setL (rawTo raw k)) = true := by
  refine (rightB_iff _).2 ⟨Nat.le_trans (length_setL _) (Nat.le_trans (length_rawTo _ _) (by omega)), fun p hp => ?_, rises_setL _⟩
  have h := rawTo_bd ((mem_setL _ _).1 hp)
  rw [inB_iff]
  omega

theorem Fresh.now {w w' : World} {l : List (Int × Int)} {e : Ending} (h : Fresh w l e w') : ∃ g, e = .returned (.tuple #[.slice (some ⟨g, 0, none⟩) l.length l.length, .int .i64 0]) ∧ Hid (Now w' (some ⟨g, 0, none⟩) l) ∧ Below w.heap.size w w' := by
  obtain ⟨g, he, hr, hb⟩ := h
  exact ⟨g, he, hr.rd, hb⟩

theorem right_ok' {A : Option Addr} {l : List (Int × Int)} {n c : Nat} {w : World} (hR : Now w A l) (hn : n = l.length) (hc : n ≤ c) (hr : rightB l = true) :
    Calls Try.prog 110 #[.slice A n c] w fun e w' => e = .returned (.bool true) ∧ Below w.heap.size w w' := by
  subst hn
  exact right_yes hR (Nat.le_trans ((rightB_iff l).1 hr).1 (by decide)) hc hr

end Go.Proofs.Ytikgnjcjbjafaaa.Cel
namespace Go.Proofs.Ytikgnjcjbjafaaa.Cel
open Go.RowKit Go.Sort

theorem append_none {w : World} {B : Nat} {v : Value} {out : List (Int × Int)} (c : Nat) (ho : Own w B 32 v out) :
    (Builtin.append_ #[38, 38] 38 #[v, .slice none 0 c]).run Try.prog w = .ok v w := by
  obtain ⟨i0, hi, hz0, hz1, hz2⟩ := info_parts infoCell
  rcases ho.2 with ⟨rfl, _⟩ | ⟨g, cap, cur, rfl, _, _, hnc, _⟩
  · simp [Builtin.append_, run_underlying Try.underlying38, sizeOf, typeInfo, hi, Builtin.lenOf, Builtin.firstCells]
  · simp [Builtin.append_, run_underlying Try.underlying38, sizeOf, typeInfo, hi, Builtin.lenOf, Builtin.firstCells, storeCells, hnc]

theorem fl_at {w : World} {b off : Nat} {m : List (Int × Int)} (h : ∀ j, j < m.length → w.cell? ⟨b, off + j * 2, none⟩ = some (.int .i64 (m.getD j (0, 0)).1) ∧ w.cell? ⟨b, off + j * 2 + 1, none⟩ = some (.int .i64 (m.getD j (0, 0)).2)) :
    ∀ j u, (fl m)[j]? = some u → w.cell? ((⟨b, off, none⟩ : Addr).add j) = some u := by
  intro j u hu
  rw [Addr.add_lit]
  have hj : j < m.length * 2 := by
    rcases Nat.lt_or_ge j (m.length * 2) with h1 | h1
    · exact h1
    · rw [List.getElem?_eq_none (by rw [length_fl]; exact h1)] at hu; cases hu
  obtain ⟨h0, h1⟩ := h (j / 2) (by omega)
  obtain ⟨f0, f1⟩ := fl_get m (j / 2) (by omega)
  by_cases hp : j % 2 = 0
  · have e : j = j / 2 * 2 := by omega
    rw [e] at hu ⊢
    rw [f0] at hu
    rw [← hu]
    exact h0
  · have e : j = j / 2 * 2 + 1 := by omega
    rw [e] at hu ⊢
    rw [f1] at hu
    rw [← hu, ← Nat.add_assoc]
    exact h1

theorem app_any {w : World} {B : Nat} {v : Value} {out m : List (Int × Int)} {A : Option Addr} (c : Nat) (hB : B ≤ w.heap.size) (ho : Own w B 32 v out) (hm : Now w A m) (hl : out.length + m.length ≤ 1000000) :
    ∃ v' w', (Builtin.append_ #[38, 38] 38 #[v, .slice A m.length c]).run Try.prog w = .ok v' w' ∧ Own w' B 32 v' (out ++ m) ∧ w.grownBy w' v.ownBlock := by
  obtain ⟨i0, hi, hz0, hz1, hz2⟩ := info_parts infoCell
  rcases Nat.eq_zero_or_pos m.length with h0 | h0
  · obtain rfl : m = [] := List.eq_nil_of_length_eq_zero h0
    cases A with
    | none => exact ⟨v, w, append_none c ho, by rw [List.append_nil]; exact ho, ⟨rfl, rfl, rfl, Nat.le_refl _, fun _ _ _ => rfl⟩⟩
    | some a =>
      obtain ⟨v', w', hr, h2, h3, _⟩ := run_append_own (P := Try.prog) (w := w) B 38 38 32 i0 (.agg #[.int .i64 0, .int .i64 0]) 2 16 Try.underlying38 hi hz0 hz1 hz2 rfl (by decide) v out.length (fl out) ho a 0 c [] rfl (fun j u h => by simp at h) (fun u h => by cases h) (by unfold maxLen; omega) (by omega) hB
      exact ⟨v', w', hr, by rw [List.append_nil] at h2 ⊢; exact h2, h3⟩
  · obtain ⟨b, off, rfl, _, hcell⟩ := Rd.at_ hm h0
    obtain ⟨v', w', hr, h2, h3, _⟩ := run_append_own (P := Try.prog) (w := w) B 38 38 32 i0 (.agg #[.int .i64 0, .int .i64 0]) 2 16 Try.underlying38 hi hz0 hz1 hz2 rfl (by decide) v out.length (fl out) ho ⟨b, off, none⟩ m.length c (fl m) (length_fl m) (fl_at hcell) (fl_cell1 m) (by unfold maxLen; omega) (by omega) hB
    refine ⟨v', w', hr, ?_, h3⟩
    unfold Own
    rw [fl_append, List.length_append]
    exact h2

theorem Now.drop {w : World} {b off : Nat} {l : List (Int × Int)} (h : Now w (some ⟨b, off, none⟩) l) {t : Nat} (ht : t < l.length) : Now w (some ⟨b, off + t * 2, none⟩) (l.drop t) := by
  intro j hj
  rw [List.length_drop] at hj
  obtain ⟨b', off', e, hlt, h0, h1⟩ := h (t + j) (by omega)
  simp only [Option.some.injEq, Addr.mk.injEq, and_true] at e
  obtain ⟨rfl, rfl⟩ := e
  have hg : (l.drop t).getD j (0, 0) = l.getD (t + j) (0, 0) := by rw [List.getD_eq_getElem?_getD, List.getD_eq_getElem?_getD, List.getElem?_drop]
  refine ⟨_, _, rfl, hlt, ?_, ?_⟩
  · rw [hg, ← h0]; congr 2; omega
  · rw [hg, ← h1]; congr 2; omega
theorem Now.take {w : World} {A : Option Addr} {l : List (Int × Int)} (h : Now w A l) (t : Nat) : Now w A (l.take t) := by
  intro j hj
  rw [List.length_take] at hj
  have hg : (l.take t).getD j (0, 0) = l.getD j (0, 0) := by rw [List.getD_eq_getElem?_getD, List.getD_eq_getElem?_getD, List.getElem?_take, if_pos (by omega)]
  rw [hg]
  exact h j (by omega)

/-- three appends: the end, the whole, the beginning -/
theorem turn_any {w : World} {A AT : Option Addr} {l : List (Int × Int)} {t c cT : Nat} (hl : Now w A l) (hT : Now w AT (l.drop t)) (h60 : l.length ≤ 60) :
    ∃ v1 w1 v2 w2 v3 w3, (Builtin.append_ #[38, 38] 38 #[.slice none 0 0, .slice AT (l.drop t).length cT]).run Try.prog w = .ok v1 w1 ∧
      (Builtin.append_ #[38, 38] 38 #[v1, .slice A l.length c]).run Try.prog w1 = .ok v2 w2 ∧
      (Builtin.append_ #[38, 38] 38 #[v2, .slice A (l.take t).length c]).run Try.prog w2 = .ok v3 w3 ∧
      Hid (Own w3 w.heap.size 32 v3 (l.drop t ++ l ++ l.take t)) ∧ Below w.heap.size w w3 := by
  have hd := List.length_drop (i := t) (l := l)
  have htk := List.length_take (i := t) (l := l)
  have h0 : Own w w.heap.size 32 (.slice none 0 0) [] := World.ownsRow_nil _ _ _ _
  obtain ⟨v1, w1, r1, o1, g1⟩ := app_any (w := w) (v := .slice none 0 0) (out := []) cT (Nat.le_refl _) h0 hT (by simp; omega)
  have b1 : Below w.heap.size w w1 := (Below.refl _ _).grown g1 (Nat.le_refl _) (fun k e => by cases e)
  obtain ⟨v2, w2, r2, o2, g2⟩ := app_any c b1.size o1 (hl.below b1) (by simp; omega)
  have b2 : Below w.heap.size w w2 := b1.grown g2 b1.size (fun k e => (World.ownsRow.lt o1 k e).1)
  obtain ⟨v3, w3, r3, o3, g3⟩ := app_any c b2.size o2 ((hl.below b2).take t) (by simp; omega)
  have b3 : Below w.heap.size w w3 := b2.grown g3 b2.size (fun k e => (World.ownsRow.lt o2 k e).1)
  exact ⟨v1, w1, v2, w2, v3, w3, r1, r2, r3, o3, b3⟩

theorem slice_from {w : World} {A : Option Addr} {l : List (Int × Int)} {c t : Nat} (hs : Shape A l.length c) (hN : Now w A l) (ht : t ≤ l.length) (hc : l.length ≤ c) :
    ∃ AT cT, Now w AT (l.drop t) ∧ ∀ (o : Oper) (ev : Operand → Value) x y, o.op = .slice 38 x (some y) none none → ev x = .slice A l.length c → ev y = .int .i64 (t : Int) → ∀ w, (execOp ev o).run Try.prog w = .ok (.value (.slice AT (l.length - t) cT)) w := by
  rcases hs with ⟨rfl, rfl, h0⟩ | ⟨g, rfl⟩
  · obtain rfl : l = [] := List.eq_nil_of_length_eq_zero h0
    obtain rfl : t = 0 := by simpa using ht
    refine ⟨none, 0, Rd.nil _ _ _, fun o ev x y ho hx hy w => ?_⟩
    simp only [execOp, ho, hx, hy]
    go_simp
  · refine ⟨if c = t then (some ⟨g, 0, none⟩ : Option Addr) else some ⟨g, t * 2, none⟩, c - t, ?_, fun o ev x y ho hx hy w => ?_⟩
    · by_cases htl2 : t < l.length
      · rw [if_neg (by omega)]
        have := Now.drop hN htl2
        rwa [Nat.zero_add] at this
      · rw [List.drop_eq_nil_of_le (by omega)]
        exact Rd.nil _ _ _
    · simp only [execOp, ho, hx, hy]
      go_simp
theorem slice_to {A : Option Addr} {n c t : Nat} (hs : Shape A n c) (ht : t ≤ n) (hc : n ≤ c) (o : Oper) (ev : Operand → Value) (x y : Operand) (ho : o.op = .slice 38 x none (some y) none) (hx : ev x = .slice A n c) (hy : ev y = .int .i64 (t : Int)) (w : World) :
    (execOp ev o).run Try.prog w = .ok (.value (.slice A t c)) w := by
  rcases hs with ⟨rfl, rfl, rfl⟩ | ⟨g, rfl⟩
  · obtain rfl : t = 0 := by omega
    simp only [execOp, ho, hx, hy]
    go_simp
  · have htc : t ≤ c := by omega
    simp only [execOp, ho, hx, hy]
    go_simp

/-- What comes out: a list at a place of its own. -/
def Out (S : List (Int × Int)) (w : World) (e : Ending) (w' : World) : Prop :=
  ∃ g, e = .returned (.tuple #[.slice (some ⟨g, 0, none⟩) S.length S.length, .int .i64 0]) ∧ Hid (Now w' (some ⟨g, 0, none⟩) S) ∧ Below w.heap.size w w'

theorem of_ok {A : Option Addr} {l S : List (Int × Int)} {n c : Nat} {w : World} (hS : setL l = S) (hR : Now w A l) (hn : n = l.length) (hc : n ≤ c) (hl : n ≤ 1000) (hin : ∀ p ∈ l, inB p = true) :
    Calls Try.prog 54 #[.slice A n c] w (Out S w) := by
  subst hn hS
  refine (of_in A l c w hR (by omega) hc (by rw [List.any_eq_false]; intro p hp; rw [hin p hp]; simp) (Nat.le_trans (length_setL l) (by omega))).mono ?_
  rintro e w' ⟨g, he, hr, hb⟩
  exact ⟨g, he, hr.rd, hb⟩
theorem same_eq {A A' : Option Addr} {l m : List (Int × Int)} {c c' : Nat} {w : World} (hR : Now w A l) (hR' : Now w A' m) (hl : l.length ≤ 1000000) (he : l = m) :
    Calls Try.prog 21 #[.slice A l.length c, .slice A' m.length c'] w fun e w' => e = .returned (.bool true) ∧ Below w.heap.size w w' := by
  have := same_holds (c := c) (c' := c') hR hR' hl
  rwa [decide_eq_true he] at this

/-! ### what the sets are -/
theorem mem_outL (q y : Int × Int) (l : List (Int × Int)) : y ∈ outL q l ↔ y ∈ l ∧ y ≠ q := by
  unfold outL; rw [List.mem_filter]; simp
theorem setL_turn (l : List (Int × Int)) (t : Nat) : setL (l.drop t ++ l ++ l.take t) = setL l :=
  rises_ext (rises_setL _) (rises_setL _) fun y => by
    rw [mem_setL, mem_setL, List.mem_append, List.mem_append]
    constructor
    · rintro ((h | h) | h)
      · exact List.mem_of_mem_drop h
      · exact h
      · exact List.mem_of_mem_take h
    · exact fun h => .inl (.inr h)
theorem outL_putL {l : List (Int × Int)} (hs : Rises l) (q : Int × Int) : outL q (putL q l) = outL q l :=
  rises_ext (List.Pairwise.filter _ (rises_putL q hs)) (List.Pairwise.filter _ hs) fun y => by
    rw [mem_outL, mem_outL, mem_putL]
    constructor
    · rintro ⟨h | h, hn⟩
      · exact absurd h hn
      · exact ⟨h, hn⟩
    · rintro ⟨h, hn⟩
      exact ⟨.inr h, hn⟩
theorem rightB_put {l : List (Int × Int)} (h : rightB l = true) (hl : l.length ≤ 1999) {q : Int × Int} (hq : inB q = true) : rightB (putL q l) = true := by
  obtain ⟨h0, h1, h2⟩ := (rightB_iff l).1 h
  refine (rightB_iff _).2 ⟨Nat.le_trans (length_putL_le q l) (by omega), fun c hc => ?_, rises_putL q h2⟩
  rcases (mem_putL q c l).1 hc with e | e
  · rw [e]; exact hq
  · exact h1 c e
theorem length_put_new {l : List (Int × Int)} (hs : Rises l) {q : Int × Int} (hq : q ∉ l) : (putL q l).length = l.length + 1 := by
  have hm : q ∈ putL q l := (mem_putL q q l).2 (.inl rfl)
  obtain ⟨i, hi, he⟩ := List.getElem_of_mem hm
  have h := length_out (rises_putL q hs) hi
  rw [List.getD_eq_getElem?_getD, List.getElem?_eq_getElem hi, Option.getD_some, he, outL_putL hs, outL_not hq] at h
  omega
theorem length_out_in {l : List (Int × Int)} (hs : Rises l) {q : Int × Int} (hq : q ∈ l) : (outL q l).length + 1 = l.length := by
  obtain ⟨i, hi, he⟩ := List.getElem_of_mem hq
  have h := length_out hs hi
  rwa [List.getD_eq_getElem?_getD, List.getElem?_eq_getElem hi, Option.getD_some, he] at h
theorem hasB_yes {l : List (Int × Int)} {q : Int × Int} (h : q ∈ l) : hasB l q = true := (hasB_iff l q).2 h
theorem hasB_no {l : List (Int × Int)} {q : Int × Int} (h : q ∉ l) : hasB l q = false := by
  rw [Bool.eq_false_iff]; exact fun e => h ((hasB_iff l q).1 e)

end Go.Proofs.Ytikgnjcjbjafaaa.Cel
namespace Go.Proofs.Ytikgnjcjbjafaaa.Cel
open Go.RowKit Go.Sort

/-- one list comes out -/
def One (w : World) (l : List (Int × Int)) (e : Ending) (w' : World) : Prop := ∃ v, e = .returned v ∧ Reads w' v l ∧ Below w.heap.size w w'

/-- append at the operation, by what it comes to -/
theorem wpList_append_run (w : World) {P : Program} {ops : Array Oper} {rest : List Oper} {o : Oper} {a : Act} {Q : Exit → Act → World → Prop} (hgd : o.guard = none) (d s : Operand) (t t' : TypeId)
    (ho : o.op = .call { callee := .builtin .append, args := #[d, s], argTypes := #[t, t'] }) (v u : Value) (hd : a.eval d = v) (hs : a.eval s = u) {v' : Value} {w' : World}
    (hr : (Builtin.append_ #[t, t'] o.type #[v, u]).run P w = .ok v' w') (h : wpList P ops Q rest (a.put o.dst v') w') : wpList P ops Q (o :: rest) a w := by
  refine wpList_plain hgd fun K hK => ?_
  unfold Oper.wp
  simp [execOp, ho, resolve, invoke, builtin, hd, hs, hr, Result.andThen]
  exact hK _ _ h

theorem eql_nil (A : Option Addr) (n c : Nat) (w : World) : (binOp .eql 38 (.slice A n c) (.slice none 0 0)).run Try.prog w = .ok (.bool A.isNone) w := by
  have h := run_neq_slice_nil_any (P := Try.prog) w 38 32 A n c 0 0 Try.underlying38
  simp only [binOp] at h ⊢
  cases A <;> simp_all [Op.equal, Op.maxDepth, Lib.run_equalIn_slice_nil w 9999 38 32 _ n c 0 0 Try.underlying38]

end Go.Proofs.Ytikgnjcjbjafaaa.Cel
namespace Go.Proofs.Ytikgnjcjbjafaaa.Cel
open Go.RowKit Go.Sort

/-- a list and an error's number come out: the list at some place, now -/
def Gives (w : World) (n : Int) (l : List (Int × Int)) (e : Ending) (w' : World) : Prop :=
  ∃ A c, e = .returned (.tuple #[.slice A l.length c, .int .i64 n]) ∧ l.length ≤ c ∧ Hid (Now w' A l) ∧ Below w.heap.size w w'
theorem Ans.gives {w w' : World} {r : Int × List (Int × Int)} {e : Ending} (h : Ans w r e w') : Gives w r.1 r.2 e w' := by
  obtain ⟨v, rfl, ⟨A, c, rfl, hc, hR⟩, hb⟩ := h
  exact ⟨A, c, rfl, hc, hR, hb⟩

theorem now_nil (w : World) (A : Option Addr) : Now w A [] := Rd.nil _ _ _
/-- cells laid in a new block -/
theorem now_lit {w : World} {T g : Nat} {cs : Array Value} (l : List (Int × Int)) (hcs : cs = (fl l).toArray) (hg : g = w.heap.size) : Now (w.alloc (.cells cs T)) (some ⟨g, 0, none⟩) l := fun j hj => by
  subst hcs hg
  obtain ⟨h0, h1⟩ := fl_get l j hj
  refine ⟨w.heap.size, 0, rfl, by simp, ?_, ?_⟩
  · rw [Nat.zero_add, ← h0, (Whole.new w T _).cell]; simp
  · rw [Nat.zero_add, ← h1, (Whole.new w T _).cell]; simp
/-- an element, where it lies -/
theorem Now.el {w : World} {A : Option Addr} {l : List (Int × Int)} (h : Now w A l) {j : Nat} (hj : j < l.length) :
    ∃ b off, A = some ⟨b, off, none⟩ ∧ w.cell? ⟨b, off + j * 2, none⟩ = some (.int .i64 (l.getD j (0, 0)).1) ∧ w.cell? ⟨b, off + j * 2 + 1, none⟩ = some (.int .i64 (l.getD j (0, 0)).2) := by
  obtain ⟨b, off, e, _, h0, h1⟩ := h j hj
  exact ⟨b, off, e, h0, h1⟩

def bl3 : List (Int × Int) := [(0, 0), (1, 0), (2, 0)]
def bl3v : List (Int × Int) := [(1, -1), (1, 0), (1, 1)]
theorem aw2_next : nextR bl3 = (0, bl3v) := by decide +kernel
theorem aw2_run : runA bl3 4 = (0, bl3) := by decide +kernel
theorem aw2_bad : nextR [(0, 0), (0, 0)] = (1, []) := by decide +kernel
theorem aw2_far : runA [] 1001 = (1, []) := by decide +kernel

theorem lives_ok {a : Bool} {n : Int} {r : Bool} (h : livesB a n = r) (w : World) : Calls Try.prog 120 #[.bool a, .int .i64 n] w fun e w' => e = .returned (.bool r) ∧ w = w' := by
  subst h; exact lives_any a n w

end Go.Proofs.Ytikgnjcjbjafaaa.Cel
namespace Go.Proofs.Ytikgnjcjbjafaaa.Cel
open Go.RowKit Go.Sort

theorem of_give {A : Option Addr} {l m : List (Int × Int)} {n c : Nat} {k : Int} {w : World} (hr : ofR l = (k, m)) (hR : Now w A l) (hn : n = l.length) (hc : n ≤ c) (hl : n ≤ 300) :
    Calls Try.prog 54 #[.slice A n c] w (Gives w k m) := by
  subst hn
  refine (of_ans A l c w hR (by omega) hc).mono fun e w' h => ?_
  rw [hr] at h
  exact h.gives
theorem refOf_give {A : Option Addr} {l m : List (Int × Int)} {n c : Nat} {k : Int} {w : World} (hr : ofR l = (k, m)) (hR : Now w A l) (hn : n = l.length) (hc : n ≤ c) (hl : n ≤ 300) :
    Calls Try.prog 38 #[.slice A n c] w (Gives w k m) := by
  subst hn
  refine (refOf_any A l c w hR (by omega) hc).mono fun e w' h => ?_
  rw [hr] at h
  exact h.gives
theorem refWith_give {A : Option Addr} {l m : List (Int × Int)} {n c : Nat} {k x y : Int} {al : Bool} {w : World} (hr : withR l (x, y) al = (k, m)) (hR : Now w A l) (hn : n = l.length) (hc : n ≤ c) (hl : n ≤ 300) :
    Calls Try.prog 19 #[.slice A n c, .agg #[.int .i64 x, .int .i64 y], .bool al] w (Gives w k m) := by
  subst hn
  refine (refWith_any A l c (x, y) al w hR hl hc).mono fun e w' h => ?_
  rw [hr] at h
  exact h.gives
theorem shiftR_len1 (l : List (Int × Int)) (dx dy : Int) (h : l.length ≤ 2000) : (shiftR l dx dy).2.length ≤ 2000 := by
  unfold shiftR
  split
  · split
    · rw [length_shL]; exact h
    · exact Nat.zero_le _
  · exact Nat.zero_le _
theorem twoCell1 : TwoInts Try.prog 32 := two_struct Try.underlying32 rfl rfl Try.underlying3 (by kernel_rfl) (by kernel_rfl)
theorem right_give {A : Option Addr} {l : List (Int × Int)} {n c : Nat} {r : Bool} {w : World} (hr : rightB l = r) (hR : Now w A l) (hn : n = l.length) (hc : n ≤ c) (hl : n ≤ 300) :
    Calls Try.prog 110 #[.slice A n c] w fun e w' => e = .returned (.bool r) ∧ Below w.heap.size w w' := by
  subst hn hr
  exact right_any A l c w hR (by omega) hc
theorem refRight_give {A : Option Addr} {l : List (Int × Int)} {n c : Nat} {r : Bool} {w : World} (hr : rightB l = r) (hR : Now w A l) (hn : n = l.length) (hc : n ≤ c) (hl : n ≤ 300) :
    Calls Try.prog 56 #[.slice A n c] w fun e w' => e = .returned (.bool r) ∧ Below w.heap.size w w' := by
  subst hn hr
  exact refRight_any A l c w hR (by omega) hc
theorem refHas_give {A : Option Addr} {l : List (Int × Int)} {n c : Nat} {x y : Int} {r : Bool} {w : World} (hr : hasB l (x, y) = r) (hR : Now w A l) (hn : n = l.length) (hc : n ≤ c) (hl : n ≤ 300) :
    Calls Try.prog 22 #[.slice A n c, .agg #[.int .i64 x, .int .i64 y]] w fun e w' => e = .returned (.bool r) ∧ Below w.heap.size w w' := by
  subst hn hr
  exact refHas_any A l c (x, y) w hR (by omega) hc

theorem withR_len (l : List (Int × Int)) (q : Int × Int) (al : Bool) (h : l.length ≤ 300) : (withR l q al).2.length ≤ 301 := by
  unfold withR
  split
  · split
    · cases al
      · have : (outL q l).length ≤ l.length := List.length_filter_le _ _
        simp only [Bool.false_eq_true, if_false]
        omega
      · have := length_putL_le q l
        simp only [if_true]
        omega
    · exact Nat.zero_le _
  · exact Nat.zero_le _

/-- what Box answers -/
def boxA (l : List (Int × Int)) : Value × Bool := if 0 < l.length ∧ rightB l = true then (boxV l, true) else (noBox, false)
theorem boxA_form (l : List (Int × Int)) : ∃ (x y a b : Int) (r : Bool), boxA l = (.agg #[.int .i64 x, .int .i64 y, .int .i64 a, .int .i64 b], r) := by
  unfold boxA
  split
  · exact ⟨_, _, _, _, _, rfl⟩
  · exact ⟨_, _, _, _, _, rfl⟩
theorem refBox_give {A : Option Addr} {l : List (Int × Int)} {n c : Nat} {v : Value} {r : Bool} {w : World} (hr : boxA l = (v, r)) (hR : Now w A l) (hn : n = l.length) (hc : n ≤ c) (hl : n ≤ 300) :
    Calls Try.prog 24 #[.slice A n c] w fun e w' => e = .returned (.tuple #[v, .bool r]) ∧ Below w.heap.size w w' := by
  subst hn
  unfold boxA at hr
  by_cases h0 : 0 < l.length
  · cases hb : rightB l
    · rw [if_neg (by rw [hb]; simp)] at hr
      cases hr
      exact refBox_bad A l c w hR (by omega) hc h0 hb
    · rw [if_pos ⟨h0, hb⟩] at hr
      cases hr
      exact refBox_any A l c w hR hc h0 hb
  · rw [if_neg (fun h => h0 h.1)] at hr
    cases hr
    have : l.length = 0 := by omega
    rw [this]
    exact refBox_nil A c w

/-- one of the lists that the law goes through -/
def Item3 (B k : Nat) (w : World) : Prop := ∃ (A : Option Addr) (l : List (Int × Int)) (n c : Nat), w.cell? ⟨B, k, none⟩ = some (.slice A n c) ∧ n = l.length ∧ n ≤ c ∧ n ≤ 300 ∧ Now w A l
theorem Item3.below {B k : Nat} {w w' : World} (h : Item3 B k w) (hb : Below w.heap.size w w') : Item3 B k w' := by
  obtain ⟨A, l, n, c, h1, h2, h3, h4, h5⟩ := h
  exact ⟨A, l, n, c, Qt.keep hb h1, h2, h3, h4, h5.below hb⟩
theorem item3_two {w : World} {T : Nat} {A0 A1 : Option Addr} {n0 n1 c0 c1 : Nat} {l0 l1 : List (Int × Int)} (h0 : n0 = l0.length ∧ n0 ≤ c0 ∧ n0 ≤ 300 ∧ Now w A0 l0) (h1 : n1 = l1.length ∧ n1 ≤ c1 ∧ n1 ≤ 300 ∧ Now w A1 l1) :
    ∀ k, k < 2 → Item3 w.heap.size k (w.alloc (.cells #[.slice A0 n0 c0, .slice A1 n1 c1] T)) := fun k hk => by
  have hb : Below w.heap.size w (w.alloc (.cells #[.slice A0 n0 c0, .slice A1 n1 c1] T)) := (Below.refl _ w).alloc (Nat.le_refl _) _
  have hw := Whole.new w T #[.slice A0 n0 c0, .slice A1 n1 c1]
  have : k = 0 ∨ k = 1 := by omega
  rcases this with rfl | rfl
  · exact ⟨A0, l0, n0, c0, hw.cell 0, h0.1, h0.2.1, h0.2.2.1, h0.2.2.2.below hb⟩
  · exact ⟨A1, l1, n1, c1, hw.cell 1, h1.1, h1.2.1, h1.2.2.1, h1.2.2.2.below hb⟩
theorem Now.cell_at {w : World} {g : Nat} {l : List (Int × Int)} (h : Now w (some ⟨g, 0, none⟩) l) {j : Nat} (hj : j < l.length) :
    w.cell? ⟨g, j * 2, none⟩ = some (.int .i64 (l.getD j (0, 0)).1) ∧ w.cell? ⟨g, j * 2 + 1, none⟩ = some (.int .i64 (l.getD j (0, 0)).2) := by
  obtain ⟨b, off, e, h0, h1⟩ := h.el hj
  simp only [Option.some.injEq, Addr.mk.injEq, and_true] at e
  obtain ⟨rfl, rfl⟩ := e
  rw [Nat.zero_add] at h0 h1
  exact ⟨h0, h1⟩
theorem pick1_i64 (c n : Int) (hn : 1 ≤ n) (hn2 : n ≤ 9223372036854775807) : I64 (pickI c n) := by have := pickI_bd c n hn; exact ⟨by omega, by omega⟩

end Go.Proofs.Ytikgnjcjbjafaaa.Cel
namespace Go.Proofs.Ytikgnjcjbjafaaa
set_option maxRecDepth 100000
set_option linter.unusedVariables false
set_option linter.unusedSimpArgs false

/-- a box is the least one about some cells -/
structure Tight (b : Bx) (P : List (Int × Int)) : Prop where
  w : 0 < b.2.2.1
  all : ∀ c ∈ P, b.1 ≤ c.1 ∧ c.1 < b.1 + b.2.2.1 ∧ b.2.1 ≤ c.2 ∧ c.2 < b.2.1 + b.2.2.2
  x0 : ∃ c ∈ P, c.1 = b.1
  x1 : ∃ c ∈ P, c.1 = b.1 + b.2.2.1 - 1
  y0 : ∃ c ∈ P, c.2 = b.2.1
  y1 : ∃ c ∈ P, c.2 = b.2.1 + b.2.2.2 - 1
def BoxOf (b : Bx) (P : List (Int × Int)) : Prop := (b.2.2.1 = 0 ∧ P = []) ∨ Tight b P
theorem both_of {a b : Bx} {P Q : List (Int × Int)} (ha : BoxOf a P) (hb : BoxOf b Q) : BoxOf (both7 a b) (P ++ Q) := by
  unfold both7
  rcases ha with ⟨ha, rfl⟩ | ha
  · rw [if_pos ha]; exact hb
  · have h1 := ha.w
    rw [if_neg (by omega)]
    rcases hb with ⟨hb, rfl⟩ | hb
    · rw [if_pos hb, List.append_nil]; exact .inr ha
    · have h2 := hb.w
      rw [if_neg (by omega)]
      right
      obtain ⟨c1, i1, e1⟩ := ha.x0
      obtain ⟨c2, i2, e2⟩ := ha.x1
      obtain ⟨c3, i3, e3⟩ := ha.y0
      obtain ⟨c4, i4, e4⟩ := ha.y1
      obtain ⟨d1, j1, f1⟩ := hb.x0
      obtain ⟨d2, j2, f2⟩ := hb.x1
      obtain ⟨d3, j3, f3⟩ := hb.y0
      obtain ⟨d4, j4, f4⟩ := hb.y1
      refine ⟨by dsimp only; omega, fun c hc => ?_, ?_, ?_, ?_, ?_⟩
      · rcases List.mem_append.1 hc with h | h
        · have := ha.all c h; dsimp only; omega
        · have := hb.all c h; dsimp only; omega
      · dsimp only
        by_cases h : a.1 ≤ b.1
        · exact ⟨c1, List.mem_append_left _ i1, by omega⟩
        · exact ⟨d1, List.mem_append_right _ j1, by omega⟩
      · dsimp only
        by_cases h : b.1 + b.2.2.1 ≤ a.1 + a.2.2.1
        · exact ⟨c2, List.mem_append_left _ i2, by omega⟩
        · exact ⟨d2, List.mem_append_right _ j2, by omega⟩
      · dsimp only
        by_cases h : a.2.1 ≤ b.2.1
        · exact ⟨c3, List.mem_append_left _ i3, by omega⟩
        · exact ⟨d3, List.mem_append_right _ j3, by omega⟩
      · dsimp only
        by_cases h : b.2.1 + b.2.2.2 ≤ a.2.1 + a.2.2.2
        · exact ⟨c4, List.mem_append_left _ i4, by omega⟩
        · exact ⟨d4, List.mem_append_right _ j4, by omega⟩
theorem shift_both (a b : Bx) (x y : Int) : shift7 (both7 a b) x y = both7 (shift7 a x y) (shift7 b x y) := by
  unfold both7 shift7
  simp only
  split
  · rfl
  · split
    · rfl
    · refine Prod.ext ?_ (Prod.ext ?_ (Prod.ext ?_ ?_)) <;> simp only <;> omega
theorem shift_shift (b : Bx) (x y u v : Int) : shift7 (shift7 b x y) u v = shift7 b (u + x) (v + y) := by
  unfold shift7
  refine Prod.ext ?_ (Prod.ext ?_ rfl) <;> simp only <;> omega
theorem boxN_of (l : List Nd) : ∀ (k n : Nat) (p : Int × Int), BoxOf (shift7 (boxN l k n) p.1 p.2) (flat l k n p)
  | 0, n, p => by
    unfold boxN flat
    by_cases h : n = 1
    · rw [if_pos h, if_pos h]
      right
      unfold shift7
      have hm : p ∈ [p] := List.mem_singleton.2 rfl
      exact ⟨by show (0 : Int) < 1; decide, fun c hc => by rw [List.mem_singleton.1 hc]; simp only; omega, ⟨p, hm, by simp only; omega⟩, ⟨p, hm, by simp only; omega⟩, ⟨p, hm, by simp only; omega⟩, ⟨p, hm, by simp only; omega⟩⟩
    · rw [if_neg h, if_neg h]
      exact .inl ⟨rfl, rfl⟩
  | k + 1, n, p => by
    have key : ∀ i, i ≤ 4 → BoxOf (shift7 (boxTo l k n i) p.1 p.2) (flatTo l k n p i) := by
      intro i
      induction i with
      | zero => intro _; exact .inl ⟨rfl, rfl⟩
      | succ i ih =>
        intro hi
        have h1 := ih (by omega)
        have h2 := boxN_of l k (kidN l n i) (corner7 k p i)
        have h3 := both_of h1 h2
        show BoxOf (shift7 (both7 (boxTo l k n i) (shift7 (boxN l k (kidN l n i)) (((i % 2 : Nat) : Int) * 2 ^ k) (((i / 2 : Nat) : Int) * 2 ^ k))) p.1 p.2) (flatTo l k n p i ++ flat l k (kidN l n i) (corner7 k p i))
        rw [shift_both, shift_shift]
        exact h3
    have := key 4 (Nat.le_refl _)
    rw [flatTo_all, boxTo_all] at this
    exact this
/-- of a set that rises there is one least box -/
theorem tight_one {b : Bx} {P S : List (Int × Int)} (h : Tight b P) (hm : ∀ c, c ∈ P ↔ c ∈ S) (hS : Cel.Rises S) : 0 < S.length ∧ boxV b = Cel.boxV S := by
  have h0 : 0 < S.length := by
    obtain ⟨c, hc, _⟩ := h.x0
    exact List.length_pos_of_mem ((hm c).1 hc)
  have hget : ∀ c, c ∈ S → ∃ j, j < S.length ∧ S.getD j (0, 0) = c := fun c hc => by
    obtain ⟨j, hj, e⟩ := List.mem_iff_getElem.1 hc
    exact ⟨j, hj, by rw [List.getD_eq_getElem?_getD, List.getElem?_eq_getElem hj, e]; rfl⟩
  have hin : ∀ j, j < S.length → S.getD j (0, 0) ∈ P := fun j hj => (hm _).2 (Cel.getD_mem hj)
  refine ⟨h0, ?_⟩
  -- left
  have eX : Cel.loX S S.length = b.1 := by
    obtain ⟨j, hj, ej⟩ := Cel.loX_hit h0 (Nat.le_refl S.length)
    obtain ⟨c, hc, ec⟩ := h.x0
    obtain ⟨i, hi, ei⟩ := hget c ((hm c).1 hc)
    have h1 := (h.all _ (hin j hj)).1
    have h2 := Cel.loX_le (l := S) hi (Nat.le_refl _)
    rw [ei] at h2
    omega
  have eX1 : Cel.hiX S S.length = b.1 + b.2.2.1 - 1 := by
    obtain ⟨j, hj, ej⟩ := Cel.hiX_hit h0 (Nat.le_refl S.length)
    obtain ⟨c, hc, ec⟩ := h.x1
    obtain ⟨i, hi, ei⟩ := hget c ((hm c).1 hc)
    have h1 := (h.all _ (hin j hj)).2.1
    have h2 := Cel.hiX_ge (l := S) hi (Nat.le_refl _)
    rw [ei] at h2
    omega
  have eY : (S.getD 0 (0, 0)).2 = b.2.1 := by
    obtain ⟨c, hc, ec⟩ := h.y0
    obtain ⟨i, hi, ei⟩ := hget c ((hm c).1 hc)
    have h1 := (h.all _ (hin 0 h0)).2.2.1
    have h2 := Cel.rises_y hS (Nat.zero_le i) hi
    rw [ei] at h2
    omega
  have eY1 : (S.getD (S.length - 1) (0, 0)).2 = b.2.1 + b.2.2.2 - 1 := by
    obtain ⟨c, hc, ec⟩ := h.y1
    obtain ⟨i, hi, ei⟩ := hget c ((hm c).1 hc)
    have h1 := (h.all _ (hin (S.length - 1) (by omega))).2.2.2
    have h2 := Cel.rises_y hS (i := i) (j := S.length - 1) (by omega) (by omega)
    rw [ei] at h2
    omega
  unfold boxV Cel.boxV
  rw [eX, eX1, eY, eY1]
  rw [show b.1 + b.2.2.1 - 1 - b.1 + 1 = b.2.2.1 by omega, show b.2.1 + b.2.2.2 - 1 - b.2.1 + 1 = b.2.2.2 by omega]
theorem Sq.box {l : List Nd} {room : Int} {e n : Nat} {S : List (Int × Int)} (h : Sq l room e n S) : (boxV (box7 l room n (hasB l n)).1, (box7 l room n (hasB l n)).2) = Cel.boxA S := by
  have h3 := (Cel.rightB_iff _).1 h.set
  unfold box7 Cel.boxA
  rw [right_iff.2 h.right, h.has, h.lev7, ndAt_nat, h.pop, Int.toNat_natCast, Nat.add_sub_cancel]
  by_cases h0 : 0 < S.length
  · rw [if_pos (by rw [decide_eq_true (by omega)]; rfl), if_pos ⟨h0, h.set⟩]
    have hb := boxN_of l (e + 1) n (-(2 ^ e), -(2 ^ e))
    rcases hb with ⟨_, hb⟩ | hb
    · have := h.len
      unfold about7 at this
      rw [hb] at this
      simp at this
      omega
    · rw [(tight_one hb h.flat h3.2.2).2]
  · rw [if_neg (by rw [decide_eq_false (by omega)]; decide), if_neg (fun q => h0 q.1)]
    rfl
end Go.Proofs.Ytikgnjcjbjafaaa
