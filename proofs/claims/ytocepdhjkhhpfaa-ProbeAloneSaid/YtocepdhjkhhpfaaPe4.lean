/-
  ProbeAlone: a node put behind the others, in its two lists.
-/
import Derived.Test.YtocepdhjkhhpfaaB17
import Derived.Test.YtocepdhjkhhpfaaPe1
namespace Go.Proofs.Ytocepdhjkhhpfaa
set_option maxRecDepth 100000
set_option linter.unusedVariables false
set_option linter.unusedSimpArgs false
open Go.RowKit Go.Sort

theorem ownK_type {w : World} {B g : Nat} {v : Value} {m : List Ac} {cs : Array Value} {t : TypeId} {fr : Nat × Nat} (ho : OwnK w B v m) (hg : w.heap[g]? = some (.cells cs t fr)) (ht : t ≠ 53) : v.ownBlock ≠ some g := by
  rcases ho.2 with ⟨rfl, _⟩ | ⟨x, cap, cur, rfl, _, hh, _⟩
  · simp [Value.ownBlock]
  · intro e
    obtain rfl : x = g := by simpa [Value.ownBlock] using e
    rw [hh] at hg
    injection hg with hg
    injection hg with h1 h2 h3
    exact ht h2.symm
theorem own_block {w : World} {B : Nat} {v : Value} {l : List Int} (h : Own w B v l) : v.ownBlock = none ∨ ∃ g cur, v.ownBlock = some g ∧ w.heap[g]? = some (.cells cur 3 (0, 0)) := by
  rcases h.2 with ⟨rfl, _⟩ | ⟨x, cap, cur, rfl, _, hh, _⟩
  · exact .inl rfl
  · exact .inr ⟨x, cur, rfl, hh⟩
theorem own_ne_ownK {w : World} {B B' : Nat} {v v' : Value} {l : List Int} {l' : List Ac} (h : Own w B v l) (h' : OwnK w B' v' l') : v.ownBlock = none ∨ v.ownBlock ≠ v'.ownBlock := by
  rcases own_block h with e | ⟨g, cur, e, hh⟩
  · exact .inl e
  · refine .inr fun e2 => ?_
    exact ownK_type h' hh (by decide) (e2.symm.trans e)
theorem ownK_ne_own {w : World} {B B' : Nat} {v v' : Value} {l : List Int} {l' : List Ac} (h : Own w B v l) (h' : OwnK w B' v' l') : v'.ownBlock = none ∨ v'.ownBlock ≠ v.ownBlock := by
  rcases own_block h with e | ⟨g, cur, e, hh⟩
  · cases e2 : v'.ownBlock with
    | none => exact .inl rfl
    | some x => exact .inr (by rw [e]; simp)
  · exact .inr (by rw [e]; exact ownK_type h' hh (by decide))
theorem ownK_len {w : World} {B n : Nat} {v : Value} {l : List Ac} (h : OwnK w B v l) (hl : l.length = n) : ∃ A c, v = .slice A n c := by
  obtain ⟨A, c, e, -, -⟩ := h.slice
  exact ⟨A, c, by rw [e, hl]⟩
theorem putA {B s3 tb bb h : Nat} {w W : World} {m2 : List Int} {had : List Ac} {at' : List Int} {A9 Ah Aa : Option Addr} {c9 ch ca : Nat} {ct cb : Array Value} (k : Ac) (n : Nat)
    (hO : Own W s3 (.slice A9 m2.length c9) m2) (hws : B ≤ s3) (hla : ∀ g, (Value.slice Aa h ca).ownBlock = some g → g < s3) (hoh : OwnK W B (.slice Ah h ch) had) (hoa : Own W B (.slice Aa h ca) at') (hT : W.heap[tb]? = some (.cells ct 50 (0, 0))) (hX : W.heap[bb]? = some (.cells cb 39 (0, 0))) (hB : Below B w W) (hBs : B ≤ w.heap.size) (hl : had.length = h) (hl2 : at'.length = h) (hh : h ≤ 20) :
    ∃ (Ah2 : Option Addr) (ch2 : Nat) (w7 : World), (Builtin.append_ #[48, 48] 48 #[.slice Ah h ch, .slice (some ⟨W.heap.size, 0, none⟩) 1 1]).run Try.prog (W.alloc (.cells #[.int .i64 k.1, .int .i64 k.2.1, .int .i64 k.2.2.1, .int .i64 k.2.2.2] 53)) = .ok (.slice Ah2 (h + 1) ch2) w7 ∧ w7.heap[bb]? = some (.cells cb 39 (0, 0)) ∧
      ∃ (Aa2 : Option Addr) (ca2 : Nat) (w8 : World), (Builtin.append_ #[23, 23] 23 #[.slice Aa h ca, .slice (some ⟨w7.heap.size, 0, none⟩) 1 1]).run Try.prog (w7.alloc (.cells #[.int .i64 n] 3)) = .ok (.slice Aa2 (h + 1) ca2) w8 ∧ Own w8 B (.slice A9 m2.length c9) m2 ∧ OwnK w8 B (.slice Ah2 (h + 1) ch2) (had ++ [k]) ∧ Own w8 B (.slice Aa2 (h + 1) ca2) (at' ++ [(n : Int)]) ∧ w8.heap[tb]? = some (.cells ct 50 (0, 0)) ∧ Below B w w8 := by
  have hBW : B ≤ W.heap.size := Nat.le_trans hBs hB.size
  obtain ⟨v', w7, hrun, hK7, hg7, hb7⟩ := pushK_any k hBW hoh (by omega)
  obtain ⟨Ah2, ch2, rfl⟩ := ownK_len hK7 (show (had ++ [k]).length = h + 1 by rw [List.length_append, hl]; rfl)
  have hX7 := (hg7.block bb (lt_heap6' hX) (fun e => ownK_type hoh hX (by decide) e.symm)).trans hX
  have hT7 := (hg7.block tb (lt_heap6' hT) (fun e => ownK_type hoh hT (by decide) e.symm)).trans hT
  have hO7 := hO.kept hg7 (own_ne_ownK hO hoh)
  have ha7 := hoa.kept hg7 (own_ne_ownK hoa hoh)
  have hB7 := hB.grown hg7 hBW (fun k e => (World.ownsRow.lt hoh k e).1)
  obtain ⟨v'', w8, hrun2, ha8, hg8⟩ := pushW_any (n : Int) (Nat.le_trans hBs hB7.size) ha7 (by omega)
  obtain ⟨Aa2, ca2, rfl⟩ : ∃ A c, v'' = .slice A (h + 1) c := by
    obtain ⟨A, c, e, -, -⟩ := own_slice ha8
    exact ⟨A, c, by rw [e, List.length_append, hl2]; rfl⟩
  have hT8 := (hg8.block tb (lt_heap6' hT7) (fun e => own_type ha7 hT7 (by decide) e.symm)).trans hT7
  have hK8 : OwnK w8 B (.slice Ah2 (h + 1) ch2) (had ++ [k]) := World.ownsRow.kept hK7 hg8 (ownK_ne_own ha7 hK7)
  have hne : (Value.slice A9 m2.length c9).ownBlock = none ∨ (Value.slice A9 m2.length c9).ownBlock ≠ (Value.slice Aa h ca).ownBlock := by
    cases e : (Value.slice A9 m2.length c9).ownBlock with
    | none => exact .inl rfl
    | some g =>
      refine .inr fun e2 => ?_
      have h1 := (World.ownsRow.lt hO7 g e).1
      have h2 := hla g e2.symm
      omega
  have hO8 := own_mono (hO7.kept hg8 hne) hws
  have hB8 := hB7.grown hg8 (Nat.le_trans hBs hB7.size) (fun k e => (World.ownsRow.lt ha7 k e).1)
  exact ⟨Ah2, ch2, w7, hrun, hX7, Aa2, ca2, w8, hrun2, hO8, hK8, ha8, hT8, hB8⟩
end Go.Proofs.Ytocepdhjkhhpfaa
