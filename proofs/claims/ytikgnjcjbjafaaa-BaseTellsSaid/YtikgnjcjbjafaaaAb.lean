/-
  The law NodeTells.
-/
import Derived.Test.YtikgnjcjbjafaaaAa
import Derived.Test.YtikgnjcjbjafaaaAd
import Derived.Test.YtikgnjcjbjafaaaB07
import Derived.Test.YtikgnjcjbjafaaaRq
namespace Go.Proofs.Ytikgnjcjbjafaaa
set_option linter.unusedVariables false
set_option linter.unusedSimpArgs false
open Go.RowKit Go.Sort

/-- What the law keeps: its three boxes, its roots. -/
structure NtAt (w W : World) (b0 : Nat) (A : Option Addr) (l : List Nd) (c : Nat) (ro : Int) (k : Kd) (r : Raw5) (Ar : Option Addr) (roots : List Int) : Prop where
  any : StB W b0 A l c ro
  kd : KdB W (b0 + 1) k
  raw : RawB W (b0 + 1 + 1) r
  rt : Now W Ar roots
  bel : Below b0 w W
theorem NtAt.below {w W W' : World} {b0 : Nat} {A : Option Addr} {l : List Nd} {c : Nat} {ro : Int} {k : Kd} {r : Raw5} {Ar : Option Addr} {roots : List Int} (h : NtAt w W b0 A l c ro k r Ar roots) (hb : Below W.heap.size W W') : NtAt w W' b0 A l c ro k r Ar roots :=
  ⟨h.any.below hb, h.kd.below hb, h.raw.below hb, h.rt.below hb, h.bel.trans (hb.mono (by have := lt_heap6 h.any.row; omega))⟩
/-- A store of the two that the law speaks of. -/
structure TwoB (W : World) (b : Nat) (A : Option Addr) (l : List Nd) (c : Nat) (ro : Int) (A' : Option Addr) (l' : List Nd) (c' : Nat) (ro' : Int) : Prop where
  row : W.heap[b]? = some (.cells #[.slice A l.length c, .int .i64 ro, .slice A' l'.length c', .int .i64 ro'] 27 (0, 0))
  r1 : NowN W A l
  r2 : NowN W A' l'
theorem TwoB.below {W W' : World} {b : Nat} {A : Option Addr} {l : List Nd} {c : Nat} {ro : Int} {A' : Option Addr} {l' : List Nd} {c' : Nat} {ro' : Int} (h : TwoB W b A l c ro A' l' c' ro') (hb : Below W.heap.size W W') : TwoB W' b A l c ro A' l' c' ro' :=
  ⟨(hb.block _ (lt_heap6 h.row)).trans h.row, h.r1.below hb, h.r2.below hb⟩
theorem TwoB.one {W : World} {b : Nat} {A : Option Addr} {l : List Nd} {c : Nat} {ro : Int} {A' : Option Addr} {l' : List Nd} {c' : Nat} {ro' : Int} (h : TwoB W b A l c ro A' l' c' ro') (hc : l.length ≤ c) (hc' : l'.length ≤ c') (P : List Nd → Prop) (hP : P l) (hP' : P l') {j : Nat} (hj : j < 2) :
    ∃ As ls cs rs, W.cell? ⟨b, j * 2, none⟩ = some (.slice As ls.length cs) ∧ W.cell? ⟨b, j * 2 + 1, none⟩ = some (.int .i64 rs) ∧ NowN W As ls ∧ ls.length ≤ cs ∧ P ls := by
  rcases (by omega : j = 0 ∨ j = 1) with rfl | rfl
  · exact ⟨A, l, c, ro, by rw [Lib.cell_of_heap h.row]; rfl, by rw [Lib.cell_of_heap h.row]; rfl, h.r1, hc, hP⟩
  · exact ⟨A', l', c', ro', by rw [Lib.cell_of_heap h.row]; rfl, by rw [Lib.cell_of_heap h.row]; rfl, h.r2, hc', hP'⟩
theorem Now.take {W : World} {A : Option Addr} {l : List Int} (h : Now W A l) (n : Nat) : Now W A (l.take n) := fun j hj => by
  rw [List.length_take] at hj
  obtain ⟨b, off, e, hb, hc⟩ := h j (by omega)
  refine ⟨b, off, e, hb, ?_⟩
  rw [hc, List.getD_eq_getElem?_getD, List.getD_eq_getElem?_getD, List.getElem?_take, if_pos (by omega)]
/-- Three slices of numbers. -/
structure SlsB (W : World) (b : Nat) (A : Option Addr) (l : List Int) (c : Nat) (A' : Option Addr) (l' : List Int) (c' : Nat) : Prop where
  row : W.heap[b]? = some (.cells #[.slice A l.length c, .slice A' l'.length c', .slice none 0 0] 60 (0, 0))
  r1 : Now W A l
  r2 : Now W A' l'
theorem SlsB.below {W W' : World} {b : Nat} {A : Option Addr} {l : List Int} {c : Nat} {A' : Option Addr} {l' : List Int} {c' : Nat} (h : SlsB W b A l c A' l' c') (hb : Below W.heap.size W W') : SlsB W' b A l c A' l' c' := ⟨(hb.block _ (lt_heap6 h.row)).trans h.row, h.r1.below hb, h.r2.below hb⟩
theorem SlsB.one {W : World} {b : Nat} {A : Option Addr} {l : List Int} {c : Nat} {A' : Option Addr} {l' : List Int} {c' : Nat} (h : SlsB W b A l c A' l' c') (P : List Int → Prop) (h1 : P l) (h2 : P l') (h3 : P []) {m : Nat} (hm : m < 3) : ∃ B Rl d, W.cell? ⟨b, m, none⟩ = some (.slice B Rl.length d) ∧ Now W B Rl ∧ P Rl := by
  rcases (by omega : m = 0 ∨ m = 1 ∨ m = 2) with rfl | rfl | rfl
  · exact ⟨A, l, c, by rw [Lib.cell_of_heap h.row]; rfl, h.r1, h1⟩
  · exact ⟨A', l', c', by rw [Lib.cell_of_heap h.row]; rfl, h.r2, h2⟩
  · exact ⟨none, [], 0, by rw [Lib.cell_of_heap h.row]; rfl, now_nil _ _, h3⟩
theorem put6_len (l : List Nd) (room : Int) (k : Kd) : (put6 l room k).1.length ≤ l.length + 1 := by
  unfold put6
  split
  · exact Nat.le_succ _
  · split
    · exact Nat.le_succ _
    · split
      · exact Nat.le_succ _
      · split
        · exact Nat.le_succ _
        · show (l ++ [_]).length ≤ _
          rw [List.length_append, List.length_singleton]
          exact Nat.le_refl _
/-- All that is kept in the round of a store. -/
structure EnvB (w W : World) (b0 : Nat) (Aa : Option Addr) (la : List Nd) (ca : Nat) (ra : Int) (kk : Kd) (r : Raw5) (Ar : Option Addr) (roots : List Int) (bs : Nat) (A2 : Option Addr) (l : List Nd) (c2 : Nat) (R : Int) (bx : Nat) (As : Option Addr) (ls : List Nd) (cs : Nat) (rs : Int) : Prop where
  nt : NtAt w W b0 Aa la ca ra kk r Ar roots
  two : TwoB W bs A2 l c2 R Aa la ca ra
  st : StB W bx As ls cs rs
theorem EnvB.below {w W W' : World} {b0 : Nat} {Aa : Option Addr} {la : List Nd} {ca : Nat} {ra : Int} {kk : Kd} {r : Raw5} {Ar : Option Addr} {roots : List Int} {bs : Nat} {A2 : Option Addr} {l : List Nd} {c2 : Nat} {R : Int} {bx : Nat} {As : Option Addr} {ls : List Nd} {cs : Nat} {rs : Int} (h : EnvB w W b0 Aa la ca ra kk r Ar roots bs A2 l c2 R bx As ls cs rs) (hb : Below W.heap.size W W') : EnvB w W' b0 Aa la ca ra kk r Ar roots bs A2 l c2 R bx As ls cs rs :=
  ⟨h.nt.below hb, h.two.below hb, h.st.below hb⟩
/-- Four kids, twice. -/
structure KdsB (W : World) (b : Nat) (k k' : Kd) : Prop where
  row : W.heap[b]? = some (.cells #[.int .i64 k.1, .int .i64 k.2.1, .int .i64 k.2.2.1, .int .i64 k.2.2.2, .int .i64 k'.1, .int .i64 k'.2.1, .int .i64 k'.2.2.1, .int .i64 k'.2.2.2] 52 (0, 0))
theorem KdsB.below {W W' : World} {b : Nat} {k k' : Kd} (h : KdsB W b k k') (hb : Below W.heap.size W W') : KdsB W' b k k' := ⟨(hb.block _ (lt_heap6 h.row)).trans h.row⟩
theorem KdsB.one {W : World} {b : Nat} {k k' : Kd} (h : KdsB W b k k') {m : Nat} (hm : m < 2) : ∃ x : Kd, W.cell? ⟨b, m * 4, none⟩ = some (.int .i64 x.1) ∧ W.cell? ⟨b, m * 4 + 1, none⟩ = some (.int .i64 x.2.1) ∧ W.cell? ⟨b, m * 4 + 2, none⟩ = some (.int .i64 x.2.2.1) ∧ W.cell? ⟨b, m * 4 + 3, none⟩ = some (.int .i64 x.2.2.2) := by
  rcases (by omega : m = 0 ∨ m = 1) with rfl | rfl
  · exact ⟨k, by rw [Lib.cell_of_heap h.row]; rfl, by rw [Lib.cell_of_heap h.row]; rfl, by rw [Lib.cell_of_heap h.row]; rfl, by rw [Lib.cell_of_heap h.row]; rfl⟩
  · exact ⟨k', by rw [Lib.cell_of_heap h.row]; rfl, by rw [Lib.cell_of_heap h.row]; rfl, by rw [Lib.cell_of_heap h.row]; rfl, by rw [Lib.cell_of_heap h.row]; rfl⟩
/-- Two numbers. -/
structure IntsB (W : World) (b : Nat) (x y : Int) : Prop where
  row : W.heap[b]? = some (.cells #[.int .i64 x, .int .i64 y] 3 (0, 0))
theorem IntsB.below {W W' : World} {b : Nat} {x y : Int} (h : IntsB W b x y) (hb : Below W.heap.size W W') : IntsB W' b x y := ⟨(hb.block _ (lt_heap6 h.row)).trans h.row⟩
theorem IntsB.one {W : World} {b : Nat} {x y : Int} (h : IntsB W b x y) {m : Nat} (hm : m < 2) : ∃ v : Int, W.cell? ⟨b, m, none⟩ = some (.int .i64 v) := by
  rcases (by omega : m = 0 ∨ m = 1) with rfl | rfl
  · exact ⟨x, by rw [Lib.cell_of_heap h.row]; rfl⟩
  · exact ⟨y, by rw [Lib.cell_of_heap h.row]; rfl⟩

end Go.Proofs.Ytikgnjcjbjafaaa
