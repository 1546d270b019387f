/-
  The law NodeEmpty.
-/
import Derived.Test.YtcmdhochofoohaaB08
import Derived.Test.YtcmdhochofoohaaB09
namespace Go.Proofs.Ytcmdhochofoohaa
set_option maxRecDepth 100000
set_option linter.unusedVariables false
set_option linter.unusedSimpArgs false
open Go.RowKit Go.Sort

theorem storeR_box {l : List Nd} {room : Int} {w : World} {e : Ending} {w' : World} (h : StoreR l room w e w') : ∃ A c, e = .returned (.agg #[.slice A l.length c, .int .i64 room]) ∧ l.length ≤ c ∧ NowN w' A l ∧ Below w.heap.size w w' := by
  obtain ⟨v, rfl, ⟨A, c, rfl, hc, hN⟩, hb⟩ := h
  exact ⟨A, c, rfl, hc, hN, hb⟩
theorem RdR.more {w : World} {B B' : Nat} {A : Option Addr} {l : List Raw5} (h : RdR w B A l) (hB : B ≤ B') : RdR w B' A l := fun j hj => by
  obtain ⟨b, off, e, hlt, h0⟩ := h j hj
  exact ⟨b, off, e, Nat.lt_of_lt_of_le hlt hB, h0⟩
theorem below_drew (w : World) : Below w.heap.size w w.drew := ⟨rfl, rfl, rfl, Nat.le_refl _, fun k _ => rfl⟩
/-- A region that draws its order, by a script with calm operations, to what is known at its end. -/
theorem region_calm_to {P : Program} {id : Nat} {Q : Exit → Act → World → Prop} {a : Act} {w : World} {l : List Oper} (C : World → Prop) (R : Act → Act → World → Prop) (s : Qt.Scc) (hm : P.follows .mixedOrders = true) (hsel : Region.noSelect l.toArray = true)
    (hB : Qt.treeCB .any l.toArray s (Array.replicate l.toArray.size false) = true) (hlen : s.len = l.length) (hC : C w.drew)
    (h : Qt.treeCW P l.toArray C (R a) s a w.drew) (hQ : ∀ a' w', R a a' w' → Q .normal a' w') : (Code.region id l.toArray true).wp P Q a w :=
  Qt.region_calm C (R a) s hm hsel hB hlen hC h hQ
theorem stB_put {w : World} {b : Nat} {A : Option Addr} {l : List Nd} {c : Nat} {room r : Int} {v : Value} (h : w.heap[b]? = some (.cells #[v, .int .i64 r] 25 (0, 0))) (hN : NowN w A l) (hc : l.length ≤ c) :
    StB ((w.setCell ⟨b, 0, none⟩ (.slice A l.length c)).setCell ⟨b, 1, none⟩ (.int .i64 room)) b A l c room :=
  ⟨by simp [World.setCell, Array.getElem?_modify, h], (rdN_told hN h).more (by simp [World.setCell]), hc⟩
end Go.Proofs.Ytcmdhochofoohaa
