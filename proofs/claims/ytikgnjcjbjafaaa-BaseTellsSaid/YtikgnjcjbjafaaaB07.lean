/-
  Texts that the claims of this seat share, part 7.
-/
import Derived.Test.YtikgnjcjbjafaaaB06
import Derived.Test.YtikgnjcjbjafaaaB03
import Derived.ProofKit
import Derived.OpenShut
import Derived.ChangeOld
import Derived.Deep.Slices
import Derived.Deep.Fields
import Derived.Deep.Strs
import Derived.Test.YtikgnjcjbjafaaaRows
import Derived.Test.YtikgnjcjbjafaaaB04
import Derived.KernelRfl
import Derived.Test.YtikgnjcjbjafaaaProg
import Derived.WalkKit
import Derived.WalkSpells
import Derived.WalkLawsBesides
import Derived.Lib.QuietBelow
import Derived.Lib.Hide
import Derived.BigQuiet
import Derived.StillTailTactics
import Derived.LoopN
import Derived.Handy
import Derived.Test.YtikgnjcjbjafaaaB00
set_option linter.unusedVariables false
set_option linter.unusedSimpArgs false
namespace Go.Proofs.Ytikgnjcjbjafaaa
set_option linter.unusedVariables false
set_option linter.unusedSimpArgs false
open Go.RowKit Go.Sort

def dead5 : Raw5 := (0, 0, 0, 0, 0)
/-- five numbers lie here -/
def R5At (w : World) (b o : Nat) (r : Raw5) : Prop := w.cell? ⟨b, o, none⟩ = some (.int .i64 r.1) ∧ w.cell? ⟨b, o + 1, none⟩ = some (.int .i64 r.2.1) ∧ w.cell? ⟨b, o + 2, none⟩ = some (.int .i64 r.2.2.1) ∧ w.cell? ⟨b, o + 3, none⟩ = some (.int .i64 r.2.2.2.1) ∧ w.cell? ⟨b, o + 4, none⟩ = some (.int .i64 r.2.2.2.2)
theorem R5At.below {w w' : World} {b o B : Nat} {r : Raw5} (h : R5At w b o r) (hb : Below B w w') (hx : b < B) : R5At w' b o r := by
  obtain ⟨h0, h1, h2, h3, h4⟩ := h
  exact ⟨(hb.cell (p := ⟨b, o, none⟩) hx).trans h0, (hb.cell (p := ⟨b, o + 1, none⟩) hx).trans h1, (hb.cell (p := ⟨b, o + 2, none⟩) hx).trans h2, (hb.cell (p := ⟨b, o + 3, none⟩) hx).trans h3, (hb.cell (p := ⟨b, o + 4, none⟩) hx).trans h4⟩
/-- The slice at A reads as raw numbers, five by five. -/
def RdR (w : World) (B : Nat) (A : Option Addr) (l : List Raw5) : Prop :=
  ∀ j, j < l.length → ∃ b off, A = some ⟨b, off, none⟩ ∧ b < B ∧ R5At w b (off + j * 5) (l.getD j dead5)
theorem RdR.below {w w' : World} {B B' : Nat} {A : Option Addr} {l : List Raw5} (h : RdR w B A l) (hb : Below B' w w') (hB : B ≤ B') : RdR w' B A l := fun j hj => by
  obtain ⟨b, off, e, hlt, h0⟩ := h j hj
  exact ⟨b, off, e, hlt, h0.below hb (Nat.lt_of_lt_of_le hlt hB)⟩
/-- What is known within Store's loop. -/
structure StAt (w wr : World) (g : Nat) (R : Int) (m : List Nd) (B : Option Addr) (d : Nat) : Prop where
  res : wr.heap[w.heap.size]? = some (.cells #[.slice none 0 0, .int .i64 0] 27 (0, 0))
  row : wr.heap[g]? = some (.cells #[.slice B m.length d, .int .i64 R] 27 (0, 0))
  rd : RdN wr wr.heap.size B m
  cap : m.length ≤ d
  bel : Below w.heap.size w wr
  lo : w.heap.size + 1 ≤ g
theorem storeTo_succ (room : Int) (raw : List Raw5) (n : Nat) : storeTo room raw (n + 1) = (intern6 (storeTo room raw n) room (kids6 (storeTo room raw n) (raw.getD n dead5))).1 := rfl
theorem StAt.below {w wr w' : World} {g : Nat} {R : Int} {m : List Nd} {B : Option Addr} {d : Nat} (h : StAt w wr g R m B d) (hb : Below wr.heap.size wr w') : StAt w w' g R m B d :=
  ⟨(hb.block _ (lt_heap6 h.res)).trans h.res, (hb.block _ (lt_heap6 h.row)).trans h.row, (h.rd.below hb (Nat.le_refl _)).more hb.size, h.cap, Qt.more h.bel h.bel.size hb, h.lo⟩
/-- another store is told in the box -/
theorem StAt.put {w wr : World} {g : Nat} {R : Int} {m l : List Nd} {B A : Option Addr} {d c : Nat} (h : StAt w wr g R m B d) (hR : RdN wr wr.heap.size A l) (hc : l.length ≤ c) :
    StAt w ((wr.setCell ⟨g, 0, none⟩ (.slice A l.length c)).setCell ⟨g, 1, none⟩ (.int .i64 R)) g R l A c := by
  have hlo := h.lo
  have hk : ∀ q, q < g → ((wr.setCell ⟨g, 0, none⟩ (.slice A l.length c)).setCell ⟨g, 1, none⟩ (.int .i64 R)).heap[q]? = wr.heap[q]? := fun q hq => by
    rw [Below.heap_setCell _ _ _ _ (by simp; omega), Below.heap_setCell _ _ _ _ (by simp; omega)]
  exact ⟨(hk _ (by omega)).trans h.res, set_row h.row, (rdN_told hR h.row).more (by simp [World.setCell]), hc, (h.bel.setCell (by show _ ≤ g; omega) _).setCell (by show _ ≤ g; omega) _, hlo⟩

set_option maxHeartbeats 4000000 in
set_option maxRecDepth 100000 in
theorem store6_any (A : Option Addr) (raw : List Raw5) (c : Nat) (room : Int) (w : World) (hR : RdR w w.heap.size A raw) (hl : raw.length ≤ 9223372036854775807) (hI : I64 room) (hF : ∀ j, j < raw.length → Fine5 (raw.getD j dead5)) :
    Calls Try.prog 40 #[.int .i64 room, .slice A raw.length c] w (StoreR (store6 room raw) (2 + pick6 room 60) w) := by
  have hp := pick_any room 60 w hI.1 hI.2 (by decide) (by decide)
  have hpb := pickI_bd room 60 (by decide)
  obtain ⟨R, hRR⟩ : ∃ R, R = 2 + pickI room 60 := ⟨_, rfl⟩
  have hR2 : 2 ≤ R ∧ R ≤ 100000 := by omega
  have hst : store6 room raw = storeTo R raw (min raw.length 40) := by rw [hRR]; rfl
  have hto := fun k (hk : k ≤ 40) => storeTo_right hR2.1 hR2.2 raw k hk
  have hnew := fun W => refNew6_any R W
  have e1 : newL R = new6 := by unfold newL; rw [if_pos hR2]
  have e2 : newRoom R = R := by unfold newRoom; rw [if_pos hR2]
  rw [e1, e2] at hnew
  rw [show (2 + pick6 room 60) = R from hRR.symm]
  obtain ⟨z, hz⟩ : ∃ z, z = store6 room raw := ⟨_, rfl⟩
  rw [← hz] at hst ⊢
  have HZ := Lib.hid hst
  have HT := Lib.hid hto
  have HR := Lib.hid hR
  have HFF := Lib.hid hF
  clear hz hst hto e1 e2 hR hF
  have hRa : 2 + pickI room 60 = R := hRR.symm
  clear hRR
  have hrow0 := Lib.hid (heap_alloc_new w (.cells #[.slice none 0 0, .int .i64 0] 27 (0, 0)))
  have hb0 : Hid (Below w.heap.size w (w.alloc (.cells #[.slice none 0 0, .int .i64 0] 27))) := (Below.refl _ _).alloc (Nat.le_refl _) _
  clear hp
  have hp := fun W => pick_any room 60 W hI.1 hI.2 (by decide) (by decide)
  go_enter Try.func40, Try.ntmps40
  go_wp2_with fail
  generalize w.alloc (.cells #[.slice none 0 0, .int .i64 0] 27) = w0 at *
  refine (hp _).mono ?_
  rintro e w' ⟨rfl, rfl⟩
  clear hp
  go_wp2_with fail
  refine (hnew _).mono ?_
  rintro e w1 ⟨v, rfl, ⟨B0, d0, rfl, hd0, hN⟩, hb1⟩
  have h00 : StAt w (w1.alloc (.cells #[.slice B0 new6.length d0, .int .i64 R] 27)) w1.heap.size R new6 B0 d0 := by
    have hba : Below w1.heap.size w1 (w1.alloc (.cells #[.slice B0 new6.length d0, .int .i64 R] 27)) := (Below.refl _ _).alloc (Nat.le_refl _) _
    have hs0 := lt_heap6 hrow0.out
    have hr1 := (hb1.block _ hs0).trans hrow0.out
    have hs1 := lt_heap6 hr1
    have hbw : Below w.heap.size w w1 := Qt.more hb0.out (by omega) hb1
    exact ⟨(hba.block _ hs1).trans hr1, heap_alloc_new w1 _, (RdN.below hN hba (Nat.le_refl _)).more hba.size, hd0, Qt.more hbw hbw.size hba, hs1⟩
  have H00 := Lib.hid (And.intro h00 (show new6 = storeTo R raw 0 from rfl))
  clear h00 hN hb1 hb0 hrow0 hnew hRa
  obtain ⟨m0, hm0⟩ : ∃ m0, m0 = new6 := ⟨_, rfl⟩
  rw [← hm0] at H00 hd0 ⊢
  clear hm0
  go_wp2_with fail
  generalize w1.alloc (.cells #[.slice B0 m0.length d0, .int .i64 R] 27) = wx at *
  generalize w1.heap.size = g at *
  go_loopw [6] (fun i wr => ∃ (k : Nat) (m : List Nd) (B : Option Addr) (d : Nat), k ≤ 40 ∧ k ≤ raw.length ∧ i = .int .i64 k ∧ Hid (StAt w wr g R m B d ∧ m = storeTo R raw k)) (fun i _ => 40 - (intOf i).toNat)
  case atStart => exact ⟨0, m0, B0, d0, by omega, Nat.zero_le _, rfl, H00⟩
  case round =>
    obtain ⟨k, m, B, d, hk40, hkl, rfl, HH⟩ := hrel
    have H := HH.out.1
    have hrow := H.row
    have c0 : wr.cell? ⟨g, 0, none⟩ = some (.slice B m.length d) := by rw [Lib.cell_of_heap hrow]; rfl
    have c1 : wr.cell? ⟨g, 1, none⟩ = some (.int .i64 R) := by rw [Lib.cell_of_heap hrow]; rfl
    by_cases hlt : k < raw.length ∧ k < 40
    · obtain ⟨hlt1, hlt2⟩ := hlt
      have hz1 : (k : Int) < (raw.length : Int) := by omega
      have hz2 : (k : Int) < 40 := by omega
      have hRaw := HR.out k hlt1
      obtain ⟨b, off, rfl, hbB, x0, x1, x2, x3, x4⟩ := hRaw
      have hfine := HFF.out k hlt1
      have hnext := storeTo_succ R raw k
      rw [← HH.out.2] at hnext
      have hm6 := HT.out k hk40
      rw [← HH.out.2] at hm6
      generalize raw.getD k dead5 = r at *
      have hkids := fun W (hb : Below wr.heap.size wr W) => kids6_any B m d R r W ((H.rd.below hb (Nat.le_refl _)).more hb.size) (by omega) hfine
      have hint := fun W (hb : Below wr.heap.size wr W) => refIntern6_any B m d R (kids6 m r) W ((H.rd.below hb (Nat.le_refl _)).more hb.size) (by omega) H.cap (fun i hi => by have := right_bd hm6.1 i hi; omega)
      unfold storeV rawV kidsV at hkids
      unfold storeV kidsV at hint
      generalize kids6 m r = K at *
      obtain ⟨p, hp⟩ : ∃ p, p = intern6 m R K := ⟨_, rfl⟩
      rw [← hp] at hint hnext
      have HNX := Lib.hid hnext
      have q0 := Qt.cell_in (Qt.keep H.bel x0)
      have q1 := Qt.cell_in (Qt.keep H.bel x1)
      have q2 := Qt.cell_in (Qt.keep H.bel x2)
      have q3 := Qt.cell_in (Qt.keep H.bel x3)
      have q4 := Qt.cell_in (Qt.keep H.bel x4)
      have q5 := Qt.cell_in c0
      have q6 := Qt.cell_in c1
      clear x0 x1 x2 x3 x4 hfine hm6 hp hnext HH c0 c1
      go_wp2
      refine Qt.region_call_tree 7 (.only 8 (.pure 9 (.pure 10 (.pure 11 (.only 12 .done))))) (by kernel_rfl) (by kernel_rfl) rfl rfl rfl Try.func76 (by kernel_rfl) (by kernel_rfl) rfl ?_
      simp only [List.take_succ_cons, List.take_zero, List.drop_succ_cons, List.drop_zero]
      repeat (go_big_quiet_step (first | (go_at_call 77; exact Qt.at_call' hkids)))
      refine wpQuiet_nil ?_
      intro w3 hb3
      have hp := hint w3 hb3
      simp only [List.map_toArray, List.map_cons, List.map_nil]
      show Calls Try.prog _ #[.agg #[.slice B m.length d, .int .i64 R], .agg #[.int .i64 K.1, .int .i64 K.2.1, .int .i64 K.2.2.1, .int .i64 K.2.2.2]] w3 _
      refine hp.mono ?_
      rintro e w4 ⟨v, rfl, ⟨A4, c4, rfl, hc4, hR4⟩, hb4⟩
      have H4 := (H.below hb3).below hb4
      have hrow4 := H4.row
      have g0 : w4.cell? ⟨g, 0, none⟩ = some (.slice B m.length d) := by rw [Lib.cell_of_heap hrow4]; rfl
      have g1 : w4.cell? ⟨g, 1, none⟩ = some (.int .i64 R) := by rw [Lib.cell_of_heap hrow4]; rfl
      have f0 := Lib.frozen_of_heap hrow4 0
      have f1 := Lib.frozen_of_heap hrow4 1
      have HN := Lib.hid (And.intro (H4.put hR4 hc4) HNX.out.symm)
      clear hp hint hkids q0 q1 q2 q3 q4 q5 q6 hrow hrow4 H4 H hb3 hb4 hR4
      refine ⟨_, rfl, ?_⟩
      simp only [Act.put, List.setIfInBounds_toArray, List.set_cons_succ, List.set_cons_zero]
      refine ⟨_, rfl, ?_⟩
      go_wp2_with fail
      refine ⟨rfl, ?_⟩
      refine ⟨_, some 30, .agg #[.slice A4 p.1.length c4, .int .i64 R], rfl, rfl, ⟨rfl, fun _ => by first | rfl | (simp only [execOp]; go_simp)⟩, ?_⟩
      simp only [Act.put, List.setIfInBounds_toArray, List.set_cons_succ, List.set_cons_zero]
      refine ⟨_, some 31, .int .i64 p.2.1, rfl, rfl, ⟨rfl, fun _ => by first | rfl | (simp only [execOp]; go_simp)⟩, ?_⟩
      simp only [Act.put, List.setIfInBounds_toArray, List.set_cons_succ, List.set_cons_zero]
      refine ⟨_, some 32, .int .i64 p.2.2, rfl, rfl, ⟨rfl, fun _ => by first | rfl | (simp only [execOp]; go_simp)⟩, ?_⟩
      simp only [Act.put, List.setIfInBounds_toArray, List.set_cons_succ, List.set_cons_zero]
      refine ⟨_, rfl, ?_⟩
      go_wp2_with fail
      refine ⟨rfl, ?_⟩
      simp only [Qt.treeW]
      go_wp2
      go_roundw
      case measure => simp [intOf]; omega
      case rel => exact ⟨k + 1, p.1, A4, c4, by omega, by omega, by go_num, HN⟩
    · have hkm : k = min raw.length 40 := by omega
      have hzm : z = m := by rw [HZ.out, ← hkm, HH.out.2]
      subst hzm
      have hres := H.res
      have t0 : wr.cell? ⟨w.heap.size, 0, none⟩ = some (.slice none 0 0) := by rw [Lib.cell_of_heap hres]; rfl
      have t1 : wr.cell? ⟨w.heap.size, 1, none⟩ = some (.int .i64 0) := by rw [Lib.cell_of_heap hres]; rfl
      have f0 := Lib.frozen_of_heap hres 0
      have f1 := Lib.frozen_of_heap hres 1
      have hfin : ((wr.setCell ⟨w.heap.size, 0, none⟩ (.slice B z.length d)).setCell ⟨w.heap.size, 1, none⟩ (.int .i64 R)).heap[w.heap.size]? = some (.cells #[.slice B z.length d, .int .i64 R] 27 (0, 0)) ∧ StoreR z R w (.returned (.agg #[.slice B z.length d, .int .i64 R])) ((wr.setCell ⟨w.heap.size, 0, none⟩ (.slice B z.length d)).setCell ⟨w.heap.size, 1, none⟩ (.int .i64 R)) := by
        refine ⟨set_row hres, _, rfl, ⟨B, d, rfl, H.cap, (rdN_told H.rd hres).more (by simp [World.setCell])⟩, ?_⟩
        exact (H.bel.setCell (Nat.le_refl _) _).setCell (Nat.le_refl _) _
      have HFI := Lib.hid hfin
      have hz1 : (¬ (k : Int) < (raw.length : Int)) ∨ ((k : Int) < (raw.length : Int) ∧ ¬ (k : Int) < 40) := by omega
      clear HH H hrow hres hfin HZ hkm hlt
      rcases hz1 with hz1 | ⟨hz1, hz2⟩
      · go_wp2
        exact bodyPost_ret (results_cell1 rfl _ _ w.heap.size _ _ _ _ rfl HFI.out.1 Try.underlying27 rfl (by kernel_rfl)) rfl HFI.out.2
      · go_wp2
        exact bodyPost_ret (results_cell1 rfl _ _ w.heap.size _ _ _ _ rfl HFI.out.1 Try.underlying27 rfl (by kernel_rfl)) rfl HFI.out.2
end Go.Proofs.Ytikgnjcjbjafaaa
namespace Go.Proofs.Ytikgnjcjbjafaaa
set_option linter.unusedVariables false
open Go.ChangeShapes Go.WideShapes Go.ChangeAt Go.RowKit Go.Deep

theorem i64_wf6 {a : Int} (h : (Lit.int .i64 a).wf = true) : I64 a := by
  have : IntKind.i64.min ≤ a ∧ a ≤ IntKind.i64.max := by simpa [Lit.wf] using h
  simpa [I64, IntKind.min, IntKind.max, IntKind.signed, IntKind.bits] using this

section
variable {H : Type} {enc : TypeId × Value → H} {w : World} {base : Nat} {spare : Nat → Bool} {held : Bool} {P : Program}
theorem exists_list6 {α : Type} (d : α) {n : Nat} {Q : Nat → α → Prop} (h : ∀ i, i < n → ∃ p, Q i p) : ∃ l : List α, l.length = n ∧ ∀ i, i < n → Q i (l.getD i d) := by
  induction n with
  | zero => exact ⟨[], rfl, fun i hi => absurd hi (Nat.not_lt_zero i)⟩
  | succ n ih =>
    obtain ⟨l, hl, hq⟩ := ih fun i hi => h i (by omega)
    obtain ⟨p, hp⟩ := h n (by omega)
    refine ⟨l ++ [p], by simp [hl], fun i hi => ?_⟩
    by_cases hin : i < n
    · rw [List.getD_eq_getElem?_getD, List.getElem?_append_left (by omega), ← List.getD_eq_getElem?_getD]
      exact hq i hin
    · have : i = n := by omega
      subst this
      rw [List.getD_eq_getElem?_getD, List.getElem?_append_right (by omega), hl]
      simpa using hp
/-- an array of numbers -/
theorem ints_in {t e : TypeId} {n fuel : Nat} {cs : List Value} {x : DataW H × List MemPlace} (ht : P.underlying t = some (.array n e)) (he : P.underlying e = some (.int .i64)) (h1 : P.cellsOf e = 1) (hn : P.cellsOf t = n)
    (h : DataW.trod enc P w base spare held fuel t cs = some x) : ∃ l : List Int, l.length = n ∧ cs = l.map (Value.int .i64) ∧ ∀ i, i < n → I64 (l.getD i 0) := by
  obtain ⟨xs, m, _, _, hlen, hxl, hx⟩ := DataW.trod_array ht h
  rw [hn] at hlen
  have hq : ∀ i, i < n → ∃ u : Int, cs[i]? = some (.int .i64 u) ∧ I64 u := by
    intro i hi
    have h2 := hx i hi
    rw [h1, List.getElem?_eq_getElem (by omega)] at h2
    obtain ⟨u, hu, _, wu⟩ := DataW.trod_int he h2
    refine ⟨u, ?_, i64_wf6 wu⟩
    have h3 : ((cs.drop (i * 1)).take 1)[0]? = some (.int .i64 u) := by rw [hu]; rfl
    simpa using h3
  obtain ⟨l, hl, hlq⟩ := exists_list6 0 hq
  refine ⟨l, hl, ?_, fun i hi => (hlq i hi).2⟩
  refine List.ext_getElem? fun i => ?_
  by_cases hi : i < n
  · rw [(hlq i hi).1, List.getElem?_map, List.getElem?_eq_getElem (by omega), List.getD_eq_getElem?_getD, List.getElem?_eq_getElem (by omega)]
    rfl
  · rw [List.getElem?_eq_none (by omega), List.getElem?_eq_none (by rw [List.length_map]; omega)]
/-- a slice whose elements take some cells each -/
theorem els_in {α : Type} (dec : α → List Value) (d : α) (Q : α → Prop) (n : Nat) (hn0 : 0 < n) {t e : TypeId} {fuel : Nat} {a0 : Option Addr} {len0 cap0 : Nat} {x : DataW H × List MemPlace} (hdec : ∀ a, (dec a).length = n) (ht : P.underlying t = some (.slice e)) (hn : P.cellsOf e = n)
    (he : ∀ fuel cs (y : DataW H × List MemPlace), DataW.trod enc P w base spare held fuel e cs = some y → ∃ a, cs = dec a ∧ Q a)
    (h : DataW.trod enc P w base spare held fuel t [.slice a0 len0 cap0] = some x) :
    ∃ l : List α, l.length = len0 ∧ len0 ≤ cap0 ∧ cap0 ≤ maxLen ∧ (∀ j, j < l.length → ∃ b off, a0 = some ⟨b, off, none⟩ ∧ b < w.heap.size ∧ ∀ i, i < n → w.cell? ⟨b, off + j * n + i, none⟩ = (dec (l.getD j d))[i]?) ∧ ∀ j, j < l.length → Q (l.getD j d) := by
  rcases open_slice ht h with ⟨hcs, _⟩ | ⟨a, len, cap, m, k, D, Pl, hcs, hb, hl, hm, hmm, _, hi⟩
  · simp at hcs
    obtain ⟨rfl, rfl, rfl⟩ := hcs
    exact ⟨[], rfl, Nat.le_refl _, by simp [maxLen], fun j hj => absurd hj (Nat.not_lt_zero j), fun j hj => absurd hj (Nat.not_lt_zero j)⟩
  · simp at hcs
    obtain ⟨rfl, rfl, rfl⟩ := hcs
    have hlm : len0 ≤ m := by rw [hmm]; split <;> omega
    have hq : ∀ i, i < len0 → ∃ p : α, (∀ q, q < n → w.cell? ((a.add (i * n)).add q) = (dec p)[q]?) ∧ Q p := by
      intro i hi'
      obtain ⟨cs', hc, ht'⟩ := hi i (by omega)
      rw [hn] at hc
      obtain ⟨p, rfl, hp⟩ := he _ _ _ ht'
      obtain ⟨_, _, hat⟩ := World.cells?_some hc
      exact ⟨p, fun q hq => hat q (by omega), hp⟩
    obtain ⟨l, hll, hlq⟩ := exists_list6 d hq
    refine ⟨l, hll, hl, hm, fun j hj => ?_, fun j hj => (hlq j (by omega)).2⟩
    obtain ⟨b, off, spot⟩ := a
    have hc := (hlq j (by omega)).1
    have h0 := hc 0 hn0
    rw [List.getElem?_eq_getElem (by rw [hdec]; exact hn0)] at h0
    have h00 := (hlq 0 (by omega)).1 0 hn0
    rw [List.getElem?_eq_getElem (by rw [hdec]; exact hn0)] at h00
    have hspot : spot = none := by simpa [Addr.add] using World.cell?_spot h00
    subst hspot
    refine ⟨b, off, rfl, ?_, fun i hi => ?_⟩
    · rw [Addr.add_lit] at h0
      exact block_lt_of_cell h0
    · have := hc i hi
      rw [Addr.add_lit, Addr.add_lit] at this
      exact this
/-- five numbers -/
def dec5 (r : Raw5) : List Value := [.int .i64 r.1, .int .i64 r.2.1, .int .i64 r.2.2.1, .int .i64 r.2.2.2.1, .int .i64 r.2.2.2.2]
def dec4 (k : Kd) : List Value := [.int .i64 k.1, .int .i64 k.2.1, .int .i64 k.2.2.1, .int .i64 k.2.2.2]
def Fine4 (k : Kd) : Prop := I64 k.1 ∧ I64 k.2.1 ∧ I64 k.2.2.1 ∧ I64 k.2.2.2
def FineN (x : Nd) : Prop := I64 x.1 ∧ Fine4 x.2.1 ∧ I64 x.2.2
theorem five_in {t e : TypeId} {fuel : Nat} {cs : List Value} {x : DataW H × List MemPlace} (ht : P.underlying t = some (.array 5 e)) (he : P.underlying e = some (.int .i64)) (h1 : P.cellsOf e = 1) (hn : P.cellsOf t = 5)
    (h : DataW.trod enc P w base spare held fuel t cs = some x) : ∃ r : Raw5, cs = dec5 r ∧ Fine5 r := by
  obtain ⟨l, hl, rfl, hI⟩ := ints_in ht he h1 hn h
  match l, hl with
  | [a, b, c, d, e], _ => exact ⟨(a, b, c, d, e), rfl, hI 0 (by decide), hI 1 (by decide), hI 2 (by decide), hI 3 (by decide), hI 4 (by decide)⟩
theorem four_in {t e : TypeId} {fuel : Nat} {cs : List Value} {x : DataW H × List MemPlace} (ht : P.underlying t = some (.array 4 e)) (he : P.underlying e = some (.int .i64)) (h1 : P.cellsOf e = 1) (hn : P.cellsOf t = 4)
    (h : DataW.trod enc P w base spare held fuel t cs = some x) : ∃ k : Kd, cs = dec4 k ∧ Fine4 k := by
  obtain ⟨l, hl, rfl, hI⟩ := ints_in ht he h1 hn h
  match l, hl with
  | [a, b, c, d], _ => exact ⟨(a, b, c, d), rfl, hI 0 (by decide), hI 1 (by decide), hI 2 (by decide), hI 3 (by decide)⟩
/-- a node: a number, four, a number -/
theorem node_in {t e t4 : TypeId} {f0 f1 f2 : Field} {fuel : Nat} {cs : List Value} {x : DataW H × List MemPlace} (ht : P.underlying t = some (.struct #[f0, f1, f2])) (e0 : f0.type = e) (e1 : f1.type = t4) (e2 : f2.type = e) (o0 : f0.offset = 0) (o1 : f1.offset = 1) (o2 : f2.offset = 5)
    (h4 : P.underlying t4 = some (.array 4 e)) (he : P.underlying e = some (.int .i64)) (h1 : P.cellsOf e = 1) (hn4 : P.cellsOf t4 = 4) (hn : P.cellsOf t = 6)
    (h : DataW.trod enc P w base spare held fuel t cs = some x) : ∃ a : Nd, cs = cellsN a ∧ FineN a := by
  obtain ⟨y0, y1, y2, m, _, hlen, k0, k1, k2⟩ := trod_struct3 ht h
  rw [hn] at hlen
  rw [e0, o0, h1] at k0
  rw [e1, o1, hn4] at k1
  rw [e2, o2, h1] at k2
  obtain ⟨a, hu, _, wu⟩ := DataW.trod_int he k0
  obtain ⟨k, hk, fk⟩ := four_in h4 he h1 hn4 k1
  obtain ⟨c, hv, _, wv⟩ := DataW.trod_int he k2
  match cs, hlen with
  | [x0, x1, x2, x3, x4, x5], _ =>
    refine ⟨(a, k, c), ?_, i64_wf6 wu, fk, i64_wf6 wv⟩
    simp [dec4] at hu hk hv
    simp [cellsN, hu, hk, hv]
end
theorem raws_in {H : Type} {enc : TypeId × Value → H} {w : World} {base : Nat} {spare : Nat → Bool} {held : Bool} {fuel : Nat} {a0 : Option Addr} {len0 cap0 : Nat} {x : DataW H × List MemPlace}
    (h : DataW.trod enc Try.prog w base spare held fuel 22 [.slice a0 len0 cap0] = some x) : ∃ l : List Raw5, l.length = len0 ∧ len0 ≤ cap0 ∧ cap0 ≤ maxLen ∧ RdR w w.heap.size a0 l ∧ ∀ j, j < l.length → Fine5 (l.getD j dead5) := by
  obtain ⟨l, h1, h2, h3, h4, h5⟩ := els_in dec5 dead5 Fine5 5 (by decide) (fun _ => rfl) Try.underlying22 (by kernel_rfl) (fun _ _ _ hy => five_in Try.underlying107 Try.underlying3 (by kernel_rfl) (by kernel_rfl) hy) h
  refine ⟨l, h1, h2, h3, fun j hj => ?_, h5⟩
  obtain ⟨b, off, e, hb, hc⟩ := h4 j hj
  exact ⟨b, off, e, hb, hc 0 (by decide), hc 1 (by decide), hc 2 (by decide), hc 3 (by decide), hc 4 (by decide)⟩
theorem nodes_in {H : Type} {enc : TypeId × Value → H} {w : World} {base : Nat} {spare : Nat → Bool} {held : Bool} {fuel : Nat} {a0 : Option Addr} {len0 cap0 : Nat} {x : DataW H × List MemPlace}
    (h : DataW.trod enc Try.prog w base spare held fuel 25 [.slice a0 len0 cap0] = some x) : ∃ l : List Nd, l.length = len0 ∧ len0 ≤ cap0 ∧ cap0 ≤ maxLen ∧ RdN w w.heap.size a0 l ∧ ∀ j, j < l.length → FineN (l.getD j deadN) := by
  obtain ⟨l, h1, h2, h3, h4, h5⟩ := els_in cellsN deadN FineN 6 (by decide) (fun _ => rfl) Try.underlying25 (by kernel_rfl) (fun _ _ _ hy => node_in Try.underlying54 rfl rfl rfl rfl rfl rfl Try.underlying52 Try.underlying3 (by kernel_rfl) (by kernel_rfl) (by kernel_rfl) hy) h
  refine ⟨l, h1, h2, h3, fun j hj => ?_, h5⟩
  obtain ⟨b, off, e, hb, hc⟩ := h4 j hj
  exact ⟨b, off, e, hb, hc 0 (by decide), hc 1 (by decide), hc 2 (by decide), hc 3 (by decide), hc 4 (by decide), hc 5 (by decide)⟩
end Go.Proofs.Ytikgnjcjbjafaaa
namespace Go.Proofs.Ytikgnjcjbjafaaa
set_option maxRecDepth 100000
set_option linter.unusedVariables false
open Go.ChangeShapes Go.WideShapes Go.ChangeAt Go.RowKit Go.Deep
theorem own : ownKnob Try.prog.godebug = none := by kernel_rfl
theorem laidOut : laidOutB Try.prog = true := by kernel_rfl
section
variable {H : Type} {enc : TypeId × Value → H} {W : World} {base : Nat} {spare : Nat → Bool} {held : Bool} {P : Program}
end
end Go.Proofs.Ytikgnjcjbjafaaa
namespace Go.Proofs.Ytikgnjcjbjafaaa
set_option linter.unusedVariables false
set_option linter.unusedSimpArgs false

theorem Right6.more {l : List Nd} {room room' : Int} (h : Right6 l room) (h1 : (l.length : Int) ≤ room') (h2 : 2 ≤ room') (h3 : room' ≤ 100000) : Right6 l room' :=
  ⟨h2, h3, h.two, h1, h.dead, h.live, h.fits⟩
theorem Right6.small {l : List Nd} {room : Int} (h : Right6 l room) : l.length ≤ 100000 := by
  have := h.len
  have := h.room100
  omega
/-- from a level that stands already -/
theorem empty_from {l : List Nd} {room : Int} (h : Right6 l room) {i e : Nat} (hi : i ≤ 42) (hE : Emp l i e) : ∀ d : Nat, i + d ≤ 42 → (l.length : Int) + d ≤ room → ∃ (m : List Nd) (n : Nat), emptyTo l room (i + d) = (m, (n : Int), 0) ∧ Grows l m ∧ Right6 m room ∧ Emp m (i + d) n ∧ m.length ≤ l.length + d := by
  intro d
  induction d with
  | zero => intro _ _; exact ⟨l, e, empty_had h i e hi hE, Grows.refl l, h, hE, Nat.le_refl _⟩
  | succ d ih =>
    intro hj hr
    obtain ⟨m, n, e, g, hm, he, hl⟩ := ih (by omega) (by omega)
    obtain ⟨n1, n2, n3⟩ := emp_node hm (i + d) n he
    have e4 : emptyTo l room (i + (d + 1)) = put6 m room ((n : Int), (n : Int), (n : Int), (n : Int)) := by
      have es : emptyTo l room (i + (d + 1)) = if (emptyTo l room (i + d)).2.2 = 0 then put6 (emptyTo l room (i + d)).1 room ((emptyTo l room (i + d)).2.1, (emptyTo l room (i + d)).2.1, (emptyTo l room (i + d)).2.1, (emptyTo l room (i + d)).2.1) else emptyTo l room (i + d) := rfl
      rw [es, e, if_pos rfl]
    have hfit : Fit4 m ((n : Int), (n : Int), (n : Int), (n : Int)) := by
      refine ⟨fun i hi => ?_, ?_⟩
      · have : kd ((n : Int), (n : Int), (n : Int), (n : Int)) i = (n : Int) := by
          match i, hi with
          | 0, _ => rfl
          | 1, _ => rfl
          | 2, _ => rfl
          | 3, _ => rfl
        rw [this]
        exact ⟨by omega, by omega, rfl⟩
      · show (ndAt m (n : Int)).1 + 1 ≤ 42
        rw [ndAt_nat, n2]
        omega
    rcases put_ok hm hfit with ⟨m', n', e', hp⟩ | ⟨_, hf, _⟩
    · refine ⟨m', n', by rw [e4, e'], g.trans hp.grows, hp.right, ⟨n, emp_grows hp.grows _ n he, hp.at_⟩, ?_⟩
      have := hp.more
      omega
    · omega
/-- what is found again -/
theorem put_found {l m : List Nd} {R : Int} {k : Kd} {n : Nat} (h : Put6 l m R k n) (hf : Fit4 l k) {b : List Nd} (hb : Right6 b R) (g : Grows m b) : intern6 b R k = (b, (n : Int), 0) := by
  rw [intern_right hb, put_again (g.fit4 (h.grows.fit4 hf)) (g.at_ h.at_)]
theorem put_grows {l : List Nd} {R : Int} (h : Right6 l R) (k : Kd) : Grows l (put6 l R k).1 ∧ (put6 l R k).1.length ≤ l.length + 1 := by
  by_cases ho : over6 l k = true
  · rcases put_ok h (over_fit ho) with ⟨m, n, e, hp⟩ | ⟨e, _⟩
    · rw [e]; exact ⟨hp.grows, hp.more⟩
    · rw [e]; exact ⟨Grows.refl _, by simp⟩
  · rw [put_over_no (by simpa using ho)]
    exact ⟨Grows.refl _, by simp⟩
/-- what NodeOnce asks, where there is room -/
structure Once (l : List Nd) (R : Int) (k : Kd) (l1 : List Nd) (n : Nat) : Prop where
  one : intern6 l R k = (l1, (n : Int), 0)
  r1 : Right6 l1 R
  len : l.length ≤ l1.length ∧ l1.length ≤ l.length + 1
  same : ∀ i, i < l.length → l1.getD i deadN = l.getD i deadN
  n_ : n < l1.length
  kids : (l1.getD n deadN).2.1 = k
  again : ∀ t, Right6 (intern6 l1 R t).1 R ∧ intern6 (intern6 l1 R t).1 R k = ((intern6 l1 R t).1, (n : Int), 0) ∧ (intern6 l1 R t).1.length ≤ l1.length + 1
theorem once {l : List Nd} {R : Int} (h : Right6 l R) {k : Kd} (hf : Fit4 l k) : (∃ l1 n, Once l R k l1 n) ∨ (intern6 l R k = (l, 0, 40) ∧ (l.length : Int) = R) := by
  rcases put_ok h hf with ⟨l1, n, e1, p1⟩ | ⟨e, hfull, _⟩
  · left
    obtain ⟨a1, a2, a3, a4, a5⟩ := p1.node hf
    refine ⟨l1, n, by rw [intern_right h, e1], p1.right, ⟨p1.grows.len, p1.more⟩, p1.grows.same, a2, a3, fun t => ?_⟩
    rw [intern_right p1.right]
    have hp := put_right p1.right t
    have hg := put_grows p1.right t
    exact ⟨hp, put_found p1 hf hp hg.1, hg.2⟩
  · right
    have := h.len
    exact ⟨by rw [intern_right h, e], by omega⟩
end Go.Proofs.Ytikgnjcjbjafaaa
namespace Go.Proofs.Ytikgnjcjbjafaaa
set_option maxRecDepth 100000
set_option linter.unusedVariables false
set_option linter.unusedSimpArgs false

/-! ### bits of cells -/
/-- which quarter of a square of the level k + 1 a cell is in, told from a corner -/
def q7 (k : Nat) (c : Int × Int) : Nat := (c.1 / 2 ^ k % 2 + c.2 / 2 ^ k % 2 * 2).toNat
theorem q7_lt (k : Nat) (c : Int × Int) : q7 k c < 4 := by unfold q7; omega
theorem q7_cast (k : Nat) (c : Int × Int) : ((q7 k c : Nat) : Int) = c.1 / 2 ^ k % 2 + c.2 / 2 ^ k % 2 * 2 := by unfold q7; omega
theorem q7_iff {k : Nat} {s c : Int × Int} : q7 k s = q7 k c ↔ s.1 / 2 ^ k % 2 = c.1 / 2 ^ k % 2 ∧ s.2 / 2 ^ k % 2 = c.2 / 2 ^ k % 2 := by
  unfold q7
  constructor
  · intro h; omega
  · rintro ⟨h1, h2⟩; rw [h1, h2]
/-- two cells have the same bits below k -/
def Agree (k : Nat) (s c : Int × Int) : Prop := ∀ j, j < k → q7 j s = q7 j c
def agreeB (k : Nat) (s c : Int × Int) : Bool := (List.range k).all fun j => decide (q7 j s = q7 j c)
theorem agree_iff {k : Nat} {s c : Int × Int} : agreeB k s c = true ↔ Agree k s c := by
  unfold agreeB Agree
  simp [List.all_eq_true]
theorem Agree.refl (k : Nat) (c : Int × Int) : Agree k c c := fun _ _ => rfl
theorem Agree.symm {k : Nat} {s c : Int × Int} (h : Agree k s c) : Agree k c s := fun j hj => (h j hj).symm
theorem Agree.trans {k : Nat} {s c d : Int × Int} (h : Agree k s c) (h2 : Agree k c d) : Agree k s d := fun j hj => (h j hj).trans (h2 j hj)
theorem Agree.low {k j : Nat} {s c : Int × Int} (h : Agree k s c) (hj : j ≤ k) : Agree j s c := fun i hi => h i (by omega)
theorem agree_succ {k : Nat} {s c : Int × Int} : Agree (k + 1) s c ↔ q7 k s = q7 k c ∧ Agree k s c :=
  ⟨fun h => ⟨h k (by omega), h.low (by omega)⟩, fun h j hj => by
    rcases (by omega : j < k ∨ j = k) with h1 | rfl
    · exact h.2 j h1
    · exact h.1⟩
theorem bit_shift (x t : Int) {j k : Nat} (h : j < k) : (x + 2 ^ k * t) / 2 ^ j % 2 = x / 2 ^ j % 2 := by
  have e : (2 : Int) ^ k = 2 ^ j * (2 * 2 ^ (k - j - 1)) := by
    rw [← Int.pow_succ', ← Int.pow_add]
    congr 1
    omega
  have hp : (2 : Int) ^ j ≠ 0 := Int.ne_of_gt (Int.pow_pos (by decide))
  rw [e, Int.mul_assoc, Int.add_mul_ediv_left _ _ hp, Int.mul_assoc, Int.add_mul_emod_self_left]
theorem agree_shift (c : Int × Int) (s t : Int) (k : Nat) : Agree k (c.1 + 2 ^ k * s, c.2 + 2 ^ k * t) c := fun j hj => by
  unfold q7
  simp only
  rw [bit_shift _ _ hj, bit_shift _ _ hj]
theorem pow_pos7 (k : Nat) : (0 : Int) < 2 ^ k := Int.pow_pos (by decide)
theorem with_bit (k i : Nat) (c : Int × Int) (hi : i < 4) : ∃ c', q7 k c' = i ∧ Agree k c' c := by
  have hp := pow_pos7 k
  refine ⟨(c.1 % 2 ^ k + 2 ^ k * ((i % 2 : Nat) : Int), c.2 % 2 ^ k + 2 ^ k * ((i / 2 : Nat) : Int)), ?_, ?_⟩
  · unfold q7
    simp only
    rw [Int.add_mul_ediv_left _ _ (by omega), Int.add_mul_ediv_left _ _ (by omega), Int.ediv_eq_zero_of_lt (Int.emod_nonneg _ (by omega)) (Int.emod_lt_of_pos _ hp), Int.ediv_eq_zero_of_lt (Int.emod_nonneg _ (by omega)) (Int.emod_lt_of_pos _ hp)]
    omega
  · have e1 : c.1 % 2 ^ k + 2 ^ k * ((i % 2 : Nat) : Int) = c.1 + 2 ^ k * (((i % 2 : Nat) : Int) - c.1 / 2 ^ k) := by
      have := Int.emod_add_mul_ediv c.1 (2 ^ k)
      rw [Int.mul_sub]
      omega
    have e2 : c.2 % 2 ^ k + 2 ^ k * ((i / 2 : Nat) : Int) = c.2 + 2 ^ k * (((i / 2 : Nat) : Int) - c.2 / 2 ^ k) := by
      have := Int.emod_add_mul_ediv c.2 (2 ^ k)
      rw [Int.mul_sub]
      omega
    rw [e1, e2]
    exact agree_shift c _ _ k
/-- within a square the bits tell a number -/
theorem bits_ext : ∀ (k : Nat) (x y : Int), 0 ≤ x → x < 2 ^ k → 0 ≤ y → y < 2 ^ k → (∀ j, j < k → x / 2 ^ j % 2 = y / 2 ^ j % 2) → x = y
  | 0, x, y, h1, h2, h3, h4, _ => by
    have : (2 : Int) ^ 0 = 1 := rfl
    omega
  | k + 1, x, y, h1, h2, h3, h4, h => by
    have e : (2 : Int) ^ (k + 1) = 2 ^ k * 2 := Int.pow_succ ..
    have hk := h k (by omega)
    have hp := pow_pos7 k
    have hx : x / 2 ^ k < 2 := Int.ediv_lt_of_lt_mul hp (by omega)
    have hy : y / 2 ^ k < 2 := Int.ediv_lt_of_lt_mul hp (by omega)
    have hx0 : 0 ≤ x / 2 ^ k := Int.ediv_nonneg h1 (by omega)
    have hy0 : 0 ≤ y / 2 ^ k := Int.ediv_nonneg h3 (by omega)
    have hq : x / 2 ^ k = y / 2 ^ k := by omega
    have ex := Int.emod_add_mul_ediv x (2 ^ k)
    have ey := Int.emod_add_mul_ediv y (2 ^ k)
    have hr := bits_ext k (x % 2 ^ k) (y % 2 ^ k) (Int.emod_nonneg _ (by omega)) (Int.emod_lt_of_pos _ hp) (Int.emod_nonneg _ (by omega)) (Int.emod_lt_of_pos _ hp) (fun j hj => by
      have e1 : x % 2 ^ k = x + 2 ^ k * (- (x / 2 ^ k)) := by rw [Int.mul_neg]; omega
      have e2 : y % 2 ^ k = y + 2 ^ k * (- (y / 2 ^ k)) := by rw [Int.mul_neg]; omega
      rw [e1, e2, bit_shift _ _ hj, bit_shift _ _ hj]
      exact h j (by omega))
    rw [hr, hq] at ex
    omega
def InSq (k : Nat) (c : Int × Int) : Prop := 0 ≤ c.1 ∧ c.1 < 2 ^ k ∧ 0 ≤ c.2 ∧ c.2 < 2 ^ k
theorem agree_ext {k : Nat} {s c : Int × Int} (hs : InSq k s) (hc : InSq k c) (h : Agree k s c) : s = c := by
  obtain ⟨s1, s2, s3, s4⟩ := hs
  obtain ⟨c1, c2, c3, c4⟩ := hc
  have e1 := bits_ext k s.1 c.1 s1 s2 c1 c2 (fun j hj => (q7_iff.1 (h j hj)).1)
  have e2 := bits_ext k s.2 c.2 s3 s4 c3 c4 (fun j hj => (q7_iff.1 (h j hj)).2)
  exact Prod.ext e1 e2

/-! ### which cells of a node are alive -/
/-- a place is that of a node of a level -/
structure Is (l : List Nd) (k n : Nat) : Prop where
  lt : n < l.length
  lev : (l.getD n deadN).1 = (k : Int)
theorem Is.grows {l m : List Nd} {k n : Nat} (h : Is l k n) (g : Grows l m) : Is m k n := ⟨Nat.lt_of_lt_of_le h.lt g.len, by rw [g.same n h.lt]; exact h.lev⟩
theorem Is.two {l : List Nd} {room : Int} {k n : Nat} (hr : Right6 l room) (h : Is l (k + 1) n) : 2 ≤ n := by
  have := (level_zero hr h.lt)
  have h2 := h.lev
  by_cases h3 : n < 2
  · rw [this.2 h3] at h2
    omega
  · omega
theorem Is.zero {l : List Nd} {room : Int} {n : Nat} (hr : Right6 l room) (h : Is l 0 n) : n < 2 := (level_zero hr h.lt).1 h.lev
def kidN (l : List Nd) (n i : Nat) : Nat := (kd (l.getD n deadN).2.1 i).toNat
theorem kid_cast {l : List Nd} {room : Int} {k n : Nat} (hr : Right6 l room) (h : Is l (k + 1) n) {i : Nat} (hi : i < 4) : kd (l.getD n deadN).2.1 i = ((kidN l n i : Nat) : Int) := by
  have := ((fits_iff.1 (hr.fits n (h.two hr) h.lt)).kid i hi).1
  unfold kidN
  omega
theorem kid_is {l : List Nd} {room : Int} {k n : Nat} (hr : Right6 l room) (h : Is l (k + 1) n) {i : Nat} (hi : i < 4) : Is l k (kidN l n i) := by
  obtain ⟨h1, h2, h3⟩ := (fits_iff.1 (hr.fits n (h.two hr) h.lt)).kid i hi
  have hn := h.lt
  have hc := kid_cast hr h hi
  refine ⟨by omega, ?_⟩
  rw [hc, ndAt_nat, h.lev] at h3
  rw [h3]
  omega
def alive (l : List Nd) : Nat → Nat → Int × Int → Bool
  | 0, n, _ => decide (n = 1)
  | k + 1, n, c => alive l k (kidN l n (q7 k c)) c
theorem alive_agree {l : List Nd} {s c : Int × Int} : ∀ (k n : Nat), Agree k s c → alive l k n s = alive l k n c
  | 0, _, _ => rfl
  | k + 1, n, h => by
    obtain ⟨h1, h2⟩ := agree_succ.1 h
    show alive l k (kidN l n (q7 k s)) s = alive l k (kidN l n (q7 k c)) c
    rw [h1]
    exact alive_agree k _ h2
theorem kidN_grows {l m : List Nd} (g : Grows l m) {n i : Nat} (h : n < l.length) : kidN m n i = kidN l n i := by unfold kidN; rw [g.same n h]
theorem alive_grows {l m : List Nd} {room : Int} (hr : Right6 l room) (g : Grows l m) (c : Int × Int) : ∀ (k n : Nat), Is l k n → alive m k n c = alive l k n c
  | 0, _, _ => rfl
  | k + 1, n, h => by
    show alive m k (kidN m n (q7 k c)) c = alive l k (kidN l n (q7 k c)) c
    rw [kidN_grows g h.lt]
    exact alive_grows hr g c k _ (kid_is hr h (q7_lt k c))
theorem alive_inj {l : List Nd} {room : Int} (hr : Right6 l room) : ∀ (k n m : Nat), Is l k n → Is l k m → (∀ c, alive l k n c = alive l k m c) → n = m
  | 0, n, m, hn, hm, h => by
    have h0 : decide (n = 1) = decide (m = 1) := h (0, 0)
    have h1 := hn.zero hr
    have h2 := hm.zero hr
    have h3 : n = 1 ↔ m = 1 := by simpa using h0
    omega
  | k + 1, n, m, hn, hm, h => by
    have hk : ∀ i, i < 4 → kidN l n i = kidN l m i := fun i hi => by
      refine alive_inj hr k _ _ (kid_is hr hn hi) (kid_is hr hm hi) fun c => ?_
      obtain ⟨c', h1, h2⟩ := with_bit k i c hi
      have h3 : alive l k (kidN l n (q7 k c')) c' = alive l k (kidN l m (q7 k c')) c' := h c'
      rw [h1, alive_agree k _ h2, alive_agree k _ h2] at h3
      exact h3
    have e : (l.getD n deadN).2.1 = (l.getD m deadN).2.1 := kd_ext fun i hi => by rw [kid_cast hr hn hi, kid_cast hr hm hi, hk i hi]
    have f1 := (fits_iff.1 (hr.fits n (hn.two hr) hn.lt)).first
    have f2 := (fits_iff.1 (hr.fits m (hm.two hr) hm.lt)).first
    rw [e, f2] at f1
    injection f1 with f1
    exact f1.symm
theorem emp_is {l : List Nd} {room : Int} (hr : Right6 l room) {k n : Nat} (h : Emp l k n) : Is l k n := ⟨(emp_node hr k n h).1, (emp_node hr k n h).2.1⟩
theorem kd_four (e : Int) (i : Nat) (hi : i < 4) : kd (e, e, e, e) i = e := by
  match i, hi with
  | 0, _ => rfl
  | 1, _ => rfl
  | 2, _ => rfl
  | 3, _ => rfl
theorem emp_alive {l : List Nd} (c : Int × Int) : ∀ (k n : Nat), Emp l k n → alive l k n c = false
  | 0, n, h => by
    have : n = 0 := h
    subst this
    rfl
  | k + 1, n, h => by
    obtain ⟨e, he, ha⟩ := h
    show alive l k (kidN l n (q7 k c)) c = false
    have : kidN l n (q7 k c) = e := by
      unfold kidN
      rw [(at_some ha).2.2.1, kd_four _ _ (q7_lt k c), Int.toNat_natCast]
    rw [this]
    exact emp_alive c k e he

/-! ### nodes of four quarters -/
def kset (k : Kd) (i : Nat) (v : Int) : Kd :=
  match i with
  | 0 => (v, k.2.1, k.2.2.1, k.2.2.2)
  | 1 => (k.1, v, k.2.2.1, k.2.2.2)
  | 2 => (k.1, k.2.1, v, k.2.2.2)
  | _ => (k.1, k.2.1, k.2.2.1, v)
theorem kd_kset (k : Kd) {i j : Nat} (v : Int) (hi : i < 4) (hj : j < 4) : kd (kset k i v) j = if j = i then v else kd k j := by
  rcases (by omega : i = 0 ∨ i = 1 ∨ i = 2 ∨ i = 3) with rfl | rfl | rfl | rfl <;> rcases (by omega : j = 0 ∨ j = 1 ∨ j = 2 ∨ j = 3) with rfl | rfl | rfl | rfl <;> rfl
/-- so many quarters are made, one behind the other; the first error ends it -/
def fourTo (F : Nat → List Nd → List Nd × Int × Int) (l : List Nd) : Nat → List Nd × Kd × Int
  | 0 => (l, (0, 0, 0, 0), 0)
  | i + 1 => if (fourTo F l i).2.2 = 0 then ((F i (fourTo F l i).1).1, kset (fourTo F l i).2.1 i (F i (fourTo F l i).1).2.1, (F i (fourTo F l i).1).2.2) else fourTo F l i
def four (room : Int) (F : Nat → List Nd → List Nd × Int × Int) (l : List Nd) : List Nd × Int × Int :=
  if (fourTo F l 4).2.2 = 0 then put6 (fourTo F l 4).1 room (fourTo F l 4).2.1 else ((fourTo F l 4).1, 0, (fourTo F l 4).2.2)
theorem fourTo_right {room : Int} {F : Nat → List Nd → List Nd × Int × Int} (hF : ∀ i l, i < 4 → Right6 l room → Right6 (F i l).1 room) {l : List Nd} (h : Right6 l room) : ∀ i, i ≤ 4 → Right6 (fourTo F l i).1 room
  | 0, _ => h
  | i + 1, hi => by
    have ih := fourTo_right hF h i (by omega)
    unfold fourTo
    split
    · exact hF i _ (by omega) ih
    · exact ih
theorem fourTo_stop {F : Nat → List Nd → List Nd × Int × Int} {l : List Nd} {i : Nat} (h : ¬ (fourTo F l i).2.2 = 0) : ∀ d, fourTo F l (i + d) = fourTo F l i
  | 0 => rfl
  | d + 1 => by
    have ih := fourTo_stop h d
    show (if (fourTo F l (i + d)).2.2 = 0 then _ else fourTo F l (i + d)) = _
    rw [ih, if_neg h]
theorem four_right {room : Int} {F : Nat → List Nd → List Nd × Int × Int} (hF : ∀ i l, i < 4 → Right6 l room → Right6 (F i l).1 room) {l : List Nd} (h : Right6 l room) : Right6 (four room F l).1 room := by
  have h4 := fourTo_right hF h 4 (Nat.le_refl _)
  unfold four
  split
  · exact put_right h4 _
  · exact h4
/-- What comes of a making: a node, what is alive in it, how many nodes it took (levels of dead nodes told apart). -/
structure ResAt (room : Int) (K : Nat) (l : List Nd) (h : Nat) (k : Nat) (A : Int × Int → Bool) (cost : Nat) (m : List Nd) (n h' : Nat) : Prop where
  grows : Grows l m
  right : Right6 m room
  is : Is m k n
  alive : ∀ c, alive m k n c = A c
  lo : h ≤ h'
  hi : h' ≤ K
  emp : ∃ e, Emp m h' e
  len : m.length + h ≤ l.length + cost + h'
def Res (room : Int) (K : Nat) (l : List Nd) (h : Nat) (z : List Nd × Int × Int) (k : Nat) (A : Int × Int → Bool) (cost : Nat) : Prop :=
  ∃ m n h', z = (m, ((n : Nat) : Int), 0) ∧ ResAt room K l h k A cost m n h'
theorem four_res {room : Int} {K : Nat} {l : List Nd} {h k : Nat} {F : Nat → List Nd → List Nd × Int × Int} {A : Nat → Int × Int → Bool} {cost : Nat → Nat} (hk : k + 1 ≤ 42) (hr : Right6 l room) (hK : h ≤ K) (he : ∃ e, Emp l h e)
    (hF : ∀ i, i < 4 → ∀ l' h', Grows l l' → Right6 l' room → h ≤ h' → h' ≤ K → (∃ e, Emp l' h' e) → l'.length + h ≤ l.length + ((List.range i).map cost).sum + h' → Res room K l' h' (F i l') k (A i) (cost i))
    (hroom : ((l.length + ((List.range 4).map cost).sum + 1 + K : Nat) : Int) ≤ room + h) :
    Res room K l h (four room F l) (k + 1) (fun c => A (q7 k c) c) (((List.range 4).map cost).sum + 1) := by
  have step : ∀ i, i ≤ 4 → ∃ m q h', fourTo F l i = (m, q, 0) ∧ Grows l m ∧ Right6 m room ∧ h ≤ h' ∧ h' ≤ K ∧ (∃ e, Emp m h' e) ∧ m.length + h ≤ l.length + ((List.range i).map cost).sum + h' ∧
      ∀ j, j < i → ∃ n : Nat, kd q j = (n : Int) ∧ Is m k n ∧ ∀ c, Go.Proofs.Ytikgnjcjbjafaaa.alive m k n c = A j c := by
    intro i
    induction i with
    | zero => intro _; exact ⟨l, (0, 0, 0, 0), h, rfl, Grows.refl l, hr, Nat.le_refl _, hK, he, by simp, fun j hj => absurd hj (Nat.not_lt_zero j)⟩
    | succ i ih =>
      intro hi
      obtain ⟨m, q, h1, e1, g1, r1, lo1, hi1, em1, len1, al1⟩ := ih (by omega)
      obtain ⟨m2, n, h2, e2, R2⟩ := hF i (by omega) m h1 g1 r1 lo1 hi1 em1 len1
      refine ⟨m2, kset q i n, h2, ?_, g1.trans R2.grows, R2.right, by have := R2.lo; omega, R2.hi, R2.emp, ?_, ?_⟩
      · unfold fourTo
        rw [e1]
        simp only [if_true]
        rw [e2]
      · have := R2.len
        rw [List.range_succ, List.map_append, List.sum_append]
        simp only [List.map_cons, List.map_nil, List.sum_cons, List.sum_nil]
        omega
      · intro j hj
        rw [kd_kset q _ (by omega) (by omega)]
        by_cases hji : j = i
        · subst hji
          rw [if_pos rfl]
          exact ⟨n, rfl, R2.is, R2.alive⟩
        · rw [if_neg hji]
          obtain ⟨n', e', is', al'⟩ := al1 j (by omega)
          exact ⟨n', e', is'.grows R2.grows, fun c => (alive_grows r1 R2.grows c k n' is').trans (al' c)⟩
  obtain ⟨m, q, h', e, g, r, lo, hi', em, len, al⟩ := step 4 (Nat.le_refl _)
  have hfit : Fit4 m q := by
    obtain ⟨n0, e0, is0, _⟩ := al 0 (by decide)
    have e0' : q.1 = (n0 : Int) := e0
    have hl0 : (ndAt m q.1).1 = (k : Int) := by rw [e0', ndAt_nat]; exact is0.lev
    refine ⟨fun i hi => ?_, by omega⟩
    obtain ⟨n, en, isn, _⟩ := al i hi
    rw [en, hl0]
    refine ⟨by omega, by have := isn.lt; omega, ?_⟩
    rw [ndAt_nat]
    exact isn.lev
  have hput : four room F l = put6 m room q := by unfold four; rw [e]; rfl
  rcases put_ok r hfit with ⟨m', n', e', hp⟩ | ⟨_, hf, _⟩
  · refine ⟨m', n', h', by rw [hput, e'], g.trans hp.grows, hp.right, ?_, ?_, lo, hi', ?_, ?_⟩
    · obtain ⟨_, p2, _, p4, _⟩ := hp.node hfit
      refine ⟨p2, ?_⟩
      obtain ⟨n0, e0, is0, _⟩ := al 0 (by decide)
      have e0' : q.1 = (n0 : Int) := e0
      rw [p4, e0', ndAt_nat, is0.lev]
      omega
    · intro c
      obtain ⟨_, p2, p3, p4, _⟩ := hp.node hfit
      obtain ⟨n, en, isn, aln⟩ := al (q7 k c) (q7_lt k c)
      show Go.Proofs.Ytikgnjcjbjafaaa.alive m' k (kidN m' n' (q7 k c)) c = _
      have : kidN m' n' (q7 k c) = n := by unfold kidN; rw [p3, en, Int.toNat_natCast]
      rw [this, alive_grows r hp.grows c k n isn, aln c]
    · obtain ⟨e2, he2⟩ := em
      exact ⟨e2, emp_grows hp.grows _ _ he2⟩
    · have := hp.more
      omega
  · omega

/-! ### the node of a set -/
def buildC (room : Int) : Nat → List Nd → List (Int × Int) → List Nd × Int × Int
  | 0, l, S => if S = [] then (l, 0, 0) else (l, 1, 0)
  | k + 1, l, S => if S = [] then emptyTo l room (k + 1) else four room (fun i l => buildC room k l (S.filter fun c => decide (q7 k c = i))) l
theorem buildC_nil (room : Int) (k : Nat) (l : List Nd) : buildC room k l [] = emptyTo l room k := by
  cases k <;> rfl
theorem parts_sum (k : Nat) (f : Int × Int → Nat) (hf : ∀ c, f c < 4) (S : List (Int × Int)) : ((List.range 4).map fun i => (S.filter fun c => decide (f c = i)).length * k).sum = S.length * k := by
  induction S with
  | nil => simp; rfl
  | cons c S ih =>
    have hc := hf c
    have e : ∀ i, ((c :: S).filter fun c => decide (f c = i)).length = (S.filter fun c => decide (f c = i)).length + if f c = i then 1 else 0 := by
      intro i
      rw [List.filter_cons]
      by_cases h : f c = i
      · simp [h]
      · simp [h]
    have hr : List.range 4 = [0, 1, 2, 3] := rfl
    rw [hr] at ih ⊢
    simp only [List.map_cons, List.map_nil, List.sum_cons, List.sum_nil, e, Nat.add_mul] at ih ⊢
    rw [List.length_cons, Nat.add_mul, ← ih]
    rcases (by omega : f c = 0 ∨ f c = 1 ∨ f c = 2 ∨ f c = 3) with h | h | h | h <;> rw [h] <;> simp <;> omega
theorem build_res {room : Int} {K : Nat} (hK42 : K ≤ 42) : ∀ (k : Nat), k ≤ K → ∀ (l : List Nd) (h : Nat) (S : List (Int × Int)), Right6 l room → h ≤ K → (∃ e, Emp l h e) → ((l.length + S.length * k + K : Nat) : Int) ≤ room + h →
    Res room K l h (buildC room k l S) k (fun c => S.any fun s => agreeB k s c) (S.length * k) := by
  have hnil : ∀ (k : Nat), k ≤ K → ∀ (l : List Nd) (h : Nat), Right6 l room → h ≤ K → (∃ e, Emp l h e) → ((l.length + K : Nat) : Int) ≤ room + h → Res room K l h (emptyTo l room k) k (fun _ => false) 0 := by
    intro k hk l h hr hK he hroom
    obtain ⟨e, he⟩ := he
    by_cases hkh : k ≤ h
    · obtain ⟨e', he'⟩ := emp_below h e he k hkh
      exact ⟨l, e', h, empty_had hr k e' (by omega) he', Grows.refl l, hr, emp_is hr he', fun c => emp_alive c k e' he', Nat.le_refl _, hK, ⟨e, he⟩, by omega⟩
    · obtain ⟨m, n, e2, g, r, em, len⟩ := empty_from hr (i := h) (e := e) (by omega) he (k - h) (by omega) (by omega)
      rw [show h + (k - h) = k by omega] at e2 em
      exact ⟨m, n, k, e2, g, r, emp_is r em, fun c => emp_alive c k n em, by omega, hk, ⟨n, em⟩, by omega⟩
  intro k
  induction k with
  | zero =>
    intro _ l h S hr hK he hroom
    by_cases hS : S = []
    · subst hS
      exact hnil 0 (by omega) l h hr hK he (by simpa using hroom)
    · unfold buildC
      rw [if_neg hS]
      refine ⟨l, 1, h, rfl, Grows.refl l, hr, ⟨by have := hr.two; omega, by rw [hr.live]; rfl⟩, fun c => ?_, Nat.le_refl _, hK, he, by omega⟩
      obtain ⟨s, S', rfl⟩ := List.exists_cons_of_ne_nil hS
      show decide (1 = 1) = _
      rw [List.any_cons]
      have : agreeB 0 s c = true := rfl
      rw [this]
      rfl
  | succ k ih =>
    intro hk l h S hr hK he hroom
    by_cases hS : S = []
    · subst hS
      rw [buildC_nil]
      have := hnil (k + 1) hk l h hr hK he (by simpa using hroom)
      simpa using this
    · unfold buildC
      rw [if_neg hS]
      have hpos : 1 ≤ S.length := List.length_pos_iff.2 hS
      have hsum := parts_sum k (q7 k) (q7_lt k) S
      have hmul : S.length * (k + 1) = S.length * k + S.length := Nat.mul_succ _ _
      have hres := four_res (room := room) (K := K) (l := l) (h := h) (k := k) (F := fun i l => buildC room k l (S.filter fun c => decide (q7 k c = i))) (A := fun i c => (S.filter fun c => decide (q7 k c = i)).any fun s => agreeB k s c) (cost := fun i => (S.filter fun c => decide (q7 k c = i)).length * k) (by omega) hr hK he ?_ ?_
      · obtain ⟨m, n, h', e, R⟩ := hres
        refine ⟨m, n, h', e, R.grows, R.right, R.is, fun c => ?_, R.lo, R.hi, R.emp, ?_⟩
        · rw [R.alive c, List.any_filter, Bool.eq_iff_iff, List.any_eq_true, List.any_eq_true]
          constructor
          · rintro ⟨s, hs, h1⟩
            rw [Bool.and_eq_true, decide_eq_true_eq] at h1
            exact ⟨s, hs, agree_iff.2 (agree_succ.2 ⟨h1.1, agree_iff.1 h1.2⟩)⟩
          · rintro ⟨s, hs, h1⟩
            obtain ⟨h2, h3⟩ := agree_succ.1 (agree_iff.1 h1)
            exact ⟨s, hs, by rw [Bool.and_eq_true, decide_eq_true_eq]; exact ⟨h2, agree_iff.2 h3⟩⟩
        · have := R.len
          rw [hsum] at this
          omega
      · intro i hi l' h' g r lo hi' em len
        refine ih (by omega) l' h' _ r hi' em ?_
        have hle : ((List.range i).map fun i => (S.filter fun c => decide (q7 k c = i)).length * k).sum + (S.filter fun c => decide (q7 k c = i)).length * k ≤ S.length * k := by
          rw [← hsum]
          have hr4 : List.range 4 = [0, 1, 2, 3] := rfl
          rw [hr4]
          rcases (by omega : i = 0 ∨ i = 1 ∨ i = 2 ∨ i = 3) with rfl | rfl | rfl | rfl
          · simp; try omega
          · rw [show List.range 1 = [0] from rfl]; simp; try omega
          · rw [show List.range 2 = [0, 1] from rfl]; simp; try omega
          · rw [show List.range 3 = [0, 1, 2] from rfl]; simp; try omega
        omega
      · rw [hsum]
        omega
end Go.Proofs.Ytikgnjcjbjafaaa
namespace Go.Proofs.Ytikgnjcjbjafaaa
set_option maxRecDepth 100000
set_option linter.unusedVariables false
set_option linter.unusedSimpArgs false
open Go.RowKit Go.Sort

theorem pow_le7 {e f : Nat} (h : e ≤ f) : (2 : Int) ^ e ≤ 2 ^ f := by
  have h1 : (2 : Nat) ^ e ≤ 2 ^ f := Nat.pow_le_pow_right (by decide) h
  have e1 : ∀ k : Nat, ((2 ^ k : Nat) : Int) = 2 ^ k := fun k => by simp
  rw [← e1, ← e1]
  omega
theorem pow_bd7 {e : Nat} (he : e ≤ 60) : (1 : Int) ≤ 2 ^ e ∧ (2 : Int) ^ e ≤ 1152921504606846976 := ⟨pow_pos7 e, pow_le7 he⟩
abbrev cellV (c : Int × Int) : Value := .agg #[.int .i64 c.1, .int .i64 c.2]
/-- a cell in a box -/
structure ClB (w : World) (b : Nat) (c : Int × Int) : Prop where
  row : w.heap[b]? = some (.cells #[.int .i64 c.1, .int .i64 c.2] 32 (0, 0))
section
variable {w w' : World} {b : Nat} {c : Int × Int}
theorem ClB.below (h : ClB w b c) (hb : Below w.heap.size w w') : ClB w' b c := ⟨(hb.block _ (lt_heap6 h.row)).trans h.row⟩
theorem ClB.c0 (h : ClB w b c) : w.cell? ⟨b, 0, none⟩ = some (.int .i64 c.1) := by rw [Lib.cell_of_heap h.row]; rfl
theorem ClB.c1 (h : ClB w b c) : w.cell? ⟨b, 1, none⟩ = some (.int .i64 c.2) := by rw [Lib.cell_of_heap h.row]; rfl
theorem ClB.kp (h : ClB w b c) (hk : Kp w w') : ClB w' b c := ⟨hk _ _ _ _ h.row ⟨.inl (by decide), by decide⟩⟩
theorem clB_new (c : Int × Int) : ClB (w.alloc (.cells #[.int .i64 c.1, .int .i64 c.2] 32)) w.heap.size c := ⟨heap_alloc_new w _⟩
end
/-- a cell is in a square, told from its middle -/
def insideB (e : Nat) (c : Int × Int) : Bool := decide (-(2 ^ e) ≤ c.1 ∧ c.1 < 2 ^ e ∧ -(2 ^ e) ≤ c.2 ∧ c.2 < 2 ^ e)
/-- .. told from its corner -/
def inwardC (e : Nat) (c : Int × Int) : Int × Int := (c.1 + 2 ^ e, c.2 + 2 ^ e)
end Go.Proofs.Ytikgnjcjbjafaaa
namespace Go.Proofs.Ytikgnjcjbjafaaa
set_option maxRecDepth 100000
set_option linter.unusedVariables false
set_option linter.unusedSimpArgs false
open Go.RowKit Go.Sort

theorem Ix.below {n0 : Nat} {w w' : World} {g b : Nat} {l : List Nd} {room : Int} (h : Ix n0 w g b l room) (hb : Below w.heap.size w w') : Ix n0 w' g b l room := by
  obtain ⟨v, D, h⟩ := h
  exact ⟨v, D, h.below hb⟩
theorem Ix.hB {n0 : Nat} {w : World} {g b : Nat} {l : List Nd} {room : Int} (h : Ix n0 w g b l room) : n0 ≤ w.heap.size := by
  obtain ⟨v, D, h⟩ := h
  exact h.hB
/-- a cell of a block beside the index is set -/
theorem Ix.setOff {n0 : Nat} {w : World} {g b : Nat} {l : List Nd} {room : Int} (h : Ix n0 w g b l room) (h2 : 2 ≤ l.length) {kb : Nat} {cs : Array Value} {T : TypeId} {fz : Nat × Nat} (hk : w.heap[kb]? = some (.cells cs T fz)) (ho : Off cs T) (j : Nat) (u : Value) : Ix n0 (w.setCell ⟨kb, j, none⟩ u) g b l room := by
  obtain ⟨v, D, h⟩ := h
  have h1 : g ≠ kb := by
    intro e
    have := h.row
    unfold IxRow at this
    rw [e, hk] at this
    injection this with this
    injection this with _ this _
    exact ho.2 this
  have h3 : b ≠ kb := by
    intro e
    obtain ⟨es, c, hm⟩ := map_kind h.map
    rw [e, hk] at hm
    injection hm with hm
    cases hm
  refine ⟨v, D, ⟨?_, World.ownsRow.kept h.own (but_set j u) (.inr fun e => own_off h.own h2 kb e cs T fz hk ho), h.map.setCell h3 _, h.says, h.gB, h.bB, ?_⟩⟩
  · have := h.row
    unfold IxRow at this ⊢
    rw [Below.heap_setCell _ _ _ _ (by show g ≠ kb; exact h1)]
    exact this
  · simp [World.setCell]
    exact h.hB
theorem BelK.setNew {n0 : Nat} {w wr : World} (h : BelK n0 w wr) {kb : Nat} (hk : w.heap.size ≤ kb) (hn : n0 ≤ w.heap.size) (j : Nat) (u : Value) : BelK n0 w (wr.setCell ⟨kb, j, none⟩ u) := by
  refine ⟨h.bel.setCell (by show n0 ≤ kb; omega) _, fun i cs T fz hi ho => ?_⟩
  rw [Below.heap_setCell _ _ _ _ (by have := lt_heap6 hi; show i ≠ kb; omega)]
  exact h.kp i cs T fz hi ho
/-- four kids in a box -/
def KR (w : World) (b : Nat) (k : Kd) : Prop := w.heap[b]? = some (.cells #[.int .i64 k.1, .int .i64 k.2.1, .int .i64 k.2.2.1, .int .i64 k.2.2.2] 52 (0, 0))
theorem KR.set {w : World} {b : Nat} {k : Kd} (h : KR w b k) {j : Nat} (hj : j < 4) (v : Int) : KR (w.setCell ⟨b, j, none⟩ (.int .i64 v)) b (kset k j v) := by
  unfold KR at h ⊢
  rcases (by omega : j = 0 ∨ j = 1 ∨ j = 2 ∨ j = 3) with rfl | rfl | rfl | rfl <;> simp [World.setCell, Array.getElem?_modify, h, kset]
theorem KR.kp {w w' : World} {b : Nat} {k : Kd} (h : KR w b k) (hk : Kp w w') : KR w' b k := hk _ _ _ _ h ⟨.inl (by decide), by decide⟩
theorem KR.c {w : World} {b : Nat} {k : Kd} (h : KR w b k) {j : Nat} (hj : j < 4) : w.cell? ⟨b, j, none⟩ = some (.int .i64 (kd k j)) := by
  rcases (by omega : j = 0 ∨ j = 1 ∨ j = 2 ∨ j = 3) with rfl | rfl | rfl | rfl <;> (rw [Lib.cell_of_heap h]; rfl)
/-- a maker in a box -/
def MR (w : World) (b g : Nat) : Prop := w.heap[b]? = some (.cells #[.pointer (some ⟨g, 0, none⟩)] 84 (0, 0))
theorem MR.kp {w w' : World} {b g : Nat} (h : MR w b g) (hk : Kp w w') : MR w' b g := hk _ _ _ _ h ⟨.inl (by decide), by decide⟩
theorem MR.c {w : World} {b g : Nat} (h : MR w b g) : w.cell? ⟨b, 0, none⟩ = some (.pointer (some ⟨g, 0, none⟩)) := by rw [Lib.cell_of_heap h]; rfl
abbrev makerV (g : Nat) : Value := .agg #[.pointer (some ⟨g, 0, none⟩)]
end Go.Proofs.Ytikgnjcjbjafaaa
namespace Go.Proofs.Ytikgnjcjbjafaaa.Cel

def cmpI (a b : Int) : Int := if a < b then -1 else if b < a then 1 else 0
def orI (a b : Int) : Int := if a = 0 then b else a
/-- how two places stand: by Y first -/
def cmpP (p q : Int × Int) : Int := orI (cmpI p.2 q.2) (cmpI p.1 q.1)
def inB (p : Int × Int) : Bool := decide (-1099511627776 ≤ p.1 ∧ p.1 ≤ 1099511627776 ∧ -1099511627776 ≤ p.2 ∧ p.2 ≤ 1099511627776)
def lessB (p q : Int × Int) : Bool := decide (p.2 < q.2 ∨ p.2 = q.2 ∧ p.1 < q.1)
def pickI (c n : Int) : Int := if c < 0 then (-(c + 1)) % n else c % n

theorem pickI_bd (c n : Int) (hn : 1 ≤ n) : 0 ≤ pickI c n ∧ pickI c n < n := by
  unfold pickI
  split
  · exact ⟨Int.emod_nonneg _ (by omega), Int.emod_lt_of_pos _ (by omega)⟩
  · exact ⟨Int.emod_nonneg _ (by omega), Int.emod_lt_of_pos _ (by omega)⟩

theorem lessB_iff (p q : Int × Int) : lessB p q = true ↔ (p.2 < q.2 ∨ p.2 = q.2 ∧ p.1 < q.1) := by simp [lessB]
theorem cmpP_neg (p q : Int × Int) : cmpP p q < 0 ↔ lessB p q = true := by
  rw [lessB_iff]
  unfold cmpP orI cmpI
  by_cases h1 : p.2 < q.2
  · simp [h1]
  · by_cases h2 : q.2 < p.2
    · simp [h1, h2]; omega
    · have h3 : p.2 = q.2 := by omega
      by_cases h4 : p.1 < q.1
      · simp [h1, h2, h4, h3]
      · by_cases h5 : q.1 < p.1 <;> simp [h1, h2, h4, h5, h3]
theorem lessB_irrefl (p : Int × Int) : lessB p p = false := by simp [lessB]
theorem lessB_trans {p q r : Int × Int} (h1 : lessB p q = true) (h2 : lessB q r = true) : lessB p r = true := by
  rw [lessB_iff] at *; omega
theorem lessB_asymm {p q : Int × Int} (h1 : lessB p q = true) : lessB q p = false := by
  rw [Bool.eq_false_iff]; intro h2; rw [lessB_iff] at *; omega
theorem lessB_total {p q : Int × Int} (h : p ≠ q) (h1 : lessB p q = false) : lessB q p = true := by
  rw [Bool.eq_false_iff, ne_eq, lessB_iff] at h1
  rw [lessB_iff]
  obtain ⟨a, b⟩ := p
  obtain ⟨c, d⟩ := q
  simp only [ne_eq, Prod.mk.injEq, not_and] at h h1 ⊢
  by_cases e : a = c
  · have := h e; omega
  · omega
/-- A list that rises. -/
def Rises (l : List (Int × Int)) : Prop := l.Pairwise fun p q => lessB p q = true

/-- The document's answer puts a cell into a list so. -/
def putL (c : Int × Int) : List (Int × Int) → List (Int × Int)
  | [] => [c]
  | x :: r => if x = c ∨ lessB c x = true then c :: (x :: r).filter (fun y => decide (y ≠ c)) else x :: putL c r

theorem mem_putL (c y : Int × Int) (l : List (Int × Int)) : y ∈ putL c l ↔ y = c ∨ y ∈ l := by
  induction l with
  | nil => simp [putL]
  | cons x r ih =>
    unfold putL
    split
    · simp only [List.mem_cons, List.mem_filter, decide_eq_true_eq]
      constructor
      · rintro (h | ⟨h, _⟩)
        · exact .inl h
        · exact .inr h
      · rintro (h | h)
        · exact .inl h
        · by_cases e : y = c
          · exact .inl e
          · exact .inr ⟨h, e⟩
    · simp only [List.mem_cons, ih]
      constructor
      · rintro (h | h | h)
        · exact .inr (.inl h)
        · exact .inl h
        · exact .inr (.inr h)
      · rintro (h | h | h)
        · exact .inr (.inl h)
        · exact .inl h
        · exact .inr (.inr h)

theorem rises_putL (c : Int × Int) {l : List (Int × Int)} (h : Rises l) : Rises (putL c l) := by
  induction l with
  | nil => exact List.pairwise_singleton _ _
  | cons x r ih =>
    have hx := List.pairwise_cons.1 h
    unfold putL
    split
    · rename_i hc
      refine List.pairwise_cons.2 ⟨fun y hy => ?_, h.filter _⟩
      simp only [List.mem_filter, decide_eq_true_eq] at hy
      rcases List.mem_cons.1 hy.1 with e | hyr
      · subst e
        rcases hc with e | hc
        · exact absurd e hy.2
        · exact hc
      · have h1 := hx.1 y hyr
        rcases hc with e | hc
        · subst e; exact h1
        · exact lessB_trans hc h1
    · rename_i hc
      refine List.pairwise_cons.2 ⟨fun y hy => ?_, ih hx.2⟩
      rw [mem_putL] at hy
      rcases hy with e | hy
      · subst e
        have h1 : x ≠ y := fun e => hc (.inl e)
        refine lessB_total (fun e => h1 e.symm) ?_
        rw [Bool.eq_false_iff]
        exact fun e => hc (.inr e)
      · exact hx.1 y hy

theorem length_putL_le (c : Int × Int) (l : List (Int × Int)) : (putL c l).length ≤ l.length + 1 := by
  induction l with
  | nil => simp [putL]
  | cons x r ih =>
    unfold putL
    split
    · simp only [List.length_cons]
      have := List.length_filter_le (fun y => decide (y ≠ c)) (x :: r)
      simp only [List.length_cons] at this
      omega
    · simp only [List.length_cons]; omega

/-- Two lists that rise and have the same cells are the same. -/
theorem rises_ext {l m : List (Int × Int)} (hl : Rises l) (hm : Rises m) (h : ∀ y, y ∈ l ↔ y ∈ m) : l = m := by
  induction l generalizing m with
  | nil =>
    cases m with
    | nil => rfl
    | cons b m => exact absurd ((h b).2 (List.mem_cons_self ..)) (by simp)
  | cons a l ih =>
    cases m with
    | nil => exact absurd ((h a).1 (List.mem_cons_self ..)) (by simp)
    | cons b m =>
      have ha := List.pairwise_cons.1 hl
      have hb := List.pairwise_cons.1 hm
      have e : a = b := by
        have h1 := (h a).1 (List.mem_cons_self ..)
        have h2 := (h b).2 (List.mem_cons_self ..)
        rcases List.mem_cons.1 h1 with e | h1
        · exact e
        · rcases List.mem_cons.1 h2 with e | h2
          · exact e.symm
          · have := lessB_asymm (hb.1 a h1)
            rw [ha.1 b h2] at this
            cases this
      subst e
      congr 1
      refine ih ha.2 hb.2 fun y => ?_
      have hy := h y
      simp only [List.mem_cons] at hy
      constructor
      · intro hyl
        rcases hy.1 (.inr hyl) with e | h'
        · exact absurd (ha.1 y hyl) (by rw [e, lessB_irrefl]; simp)
        · exact h'
      · intro hym
        rcases hy.2 (.inr hym) with e | h'
        · exact absurd (hb.1 y hym) (by rw [e, lessB_irrefl]; simp)
        · exact h'

/-- The set of a list's cells. -/
def setL (l : List (Int × Int)) : List (Int × Int) := l.foldl (fun s c => putL c s) []

theorem foldl_putL (l s : List (Int × Int)) (hs : Rises s) : Rises (l.foldl (fun s c => putL c s) s) ∧ ∀ y, y ∈ l.foldl (fun s c => putL c s) s ↔ y ∈ l ∨ y ∈ s := by
  induction l generalizing s with
  | nil => simp [hs]
  | cons c l ih =>
    obtain ⟨h1, h2⟩ := ih (putL c s) (rises_putL c hs)
    refine ⟨h1, fun y => ?_⟩
    rw [List.foldl_cons, h2 y, mem_putL, List.mem_cons]
    constructor
    · rintro (h | h | h)
      · exact .inl (.inr h)
      · exact .inl (.inl h)
      · exact .inr h
    · rintro ((h | h) | h)
      · exact .inr (.inl h)
      · exact .inl h
      · exact .inr (.inr h)
theorem rises_setL (l : List (Int × Int)) : Rises (setL l) := (foldl_putL l [] List.Pairwise.nil).1
theorem mem_setL (l : List (Int × Int)) (y : Int × Int) : y ∈ setL l ↔ y ∈ l := by rw [setL, (foldl_putL l [] List.Pairwise.nil).2 y]; simp
theorem length_foldl_putL (l s : List (Int × Int)) : (l.foldl (fun s c => putL c s) s).length ≤ l.length + s.length := by
  induction l generalizing s with
  | nil => simp
  | cons c l ih =>
    have h1 := ih (putL c s)
    have h2 := length_putL_le c s
    simp only [List.foldl_cons, List.length_cons]
    omega
theorem length_setL (l : List (Int × Int)) : (setL l).length ≤ l.length := by
  have := length_foldl_putL l []; simpa [setL] using this
theorem setL_snoc (l : List (Int × Int)) (c : Int × Int) : setL (l ++ [c]) = putL c (setL l) := by simp [setL, List.foldl_append]
/-- A list without a cell. -/
def outL (c : Int × Int) (l : List (Int × Int)) : List (Int × Int) := l.filter fun y => decide (y ≠ c)

/-- one element at a place -/
theorem getD_mem {l : List (Int × Int)} {k : Nat} (h : k < l.length) : l.getD k (0, 0) ∈ l := by
  rw [List.getD_eq_getElem?_getD, List.getElem?_eq_getElem h]; exact List.getElem_mem h
theorem take_snoc {l : List (Int × Int)} {k : Nat} (h : k < l.length) : l.take (k + 1) = l.take k ++ [l.getD k (0, 0)] := by
  rw [List.take_succ_eq_append_getElem h, List.getD_eq_getElem?_getD, List.getElem?_eq_getElem h]; rfl
theorem drop_cons {l : List (Int × Int)} {k : Nat} (h : k < l.length) : l.drop k = l.getD k (0, 0) :: l.drop (k + 1) := by
  rw [List.drop_eq_getElem_cons h, List.getD_eq_getElem?_getD, List.getElem?_eq_getElem h]; rfl

def okAt (l : List (Int × Int)) (k : Nat) : Bool := inB (l.getD k (0, 0)) && (decide (k = 0) || decide (cmpP (l.getD (k - 1) (0, 0)) (l.getD k (0, 0)) < 0))
def rightB (l : List (Int × Int)) : Bool := decide (l.length ≤ 2000) && (List.range l.length).all (okAt l)

theorem rightB_long {l : List (Int × Int)} (h : 2000 < l.length) : rightB l = false := by simp [rightB]; omega
theorem rightB_no {l : List (Int × Int)} {k : Nat} (hk : k < l.length) (h : okAt l k = false) : rightB l = false := by
  rw [Bool.eq_false_iff]
  intro hr
  simp only [rightB, Bool.and_eq_true, List.all_eq_true, List.mem_range] at hr
  rw [hr.2 k hk] at h
  cases h
theorem rightB_yes {l : List (Int × Int)} (h0 : l.length ≤ 2000) (h : ∀ k, k < l.length → okAt l k = true) : rightB l = true := by
  simp only [rightB, Bool.and_eq_true, List.all_eq_true, List.mem_range]
  exact ⟨by simpa using h0, h⟩

theorem rises_of_steps {l : List (Int × Int)} (h : ∀ k, k + 1 < l.length → lessB (l.getD k (0, 0)) (l.getD (k + 1) (0, 0)) = true) : Rises l := by
  induction l with
  | nil => exact List.Pairwise.nil
  | cons a l ih =>
    have hl : Rises l := ih fun k hk => by have := h (k + 1) (by simp only [List.length_cons]; omega); simpa using this
    refine List.pairwise_cons.2 ⟨fun y hy => ?_, hl⟩
    cases l with
    | nil => cases hy
    | cons b l =>
      have hab : lessB a b = true := by have := h 0 (by simp only [List.length_cons]; omega); simpa using this
      rcases List.mem_cons.1 hy with e | hy
      · subst e; exact hab
      · exact lessB_trans hab ((List.pairwise_cons.1 hl).1 y hy)
theorem steps_of_rises {l : List (Int × Int)} (h : Rises l) : ∀ k, k + 1 < l.length → lessB (l.getD k (0, 0)) (l.getD (k + 1) (0, 0)) = true := fun k hk => by
  have := List.pairwise_iff_getElem.1 h k (k + 1) (by omega) hk (by omega)
  rw [List.getD_eq_getElem?_getD, List.getD_eq_getElem?_getD, List.getElem?_eq_getElem (by omega), List.getElem?_eq_getElem hk]
  exact this

/-- A set, in plain words. -/
theorem rightB_iff (l : List (Int × Int)) : rightB l = true ↔ l.length ≤ 2000 ∧ (∀ c ∈ l, inB c = true) ∧ Rises l := by
  constructor
  · intro h
    simp only [rightB, Bool.and_eq_true, List.all_eq_true, List.mem_range, okAt, decide_eq_true_eq, Bool.or_eq_true] at h
    refine ⟨h.1, fun c hc => ?_, rises_of_steps fun k hk => ?_⟩
    · obtain ⟨k, hk, rfl⟩ := List.getElem_of_mem hc
      have := (h.2 k hk).1
      rwa [List.getD_eq_getElem?_getD, List.getElem?_eq_getElem hk] at this
    · rcases (h.2 (k + 1) hk).2 with e | e
      · omega
      · rw [← cmpP_neg]; simpa using e
  · rintro ⟨h0, h1, h2⟩
    refine rightB_yes h0 fun k hk => ?_
    simp only [okAt, Bool.and_eq_true, Bool.or_eq_true, decide_eq_true_eq]
    refine ⟨h1 _ (getD_mem hk), ?_⟩
    rcases Nat.eq_zero_or_pos k with e | e
    · exact .inl e
    · obtain ⟨j, rfl⟩ : ∃ j, k = j + 1 := ⟨k - 1, by omega⟩
      right
      rw [cmpP_neg]
      simpa using steps_of_rises h2 j hk

end Go.Proofs.Ytikgnjcjbjafaaa.Cel
namespace Go.Proofs.Ytikgnjcjbjafaaa.Cel
open Go.RowKit Go.Sort


theorem isNaN_any (x : Int) (w : World) : Calls Try.prog 133 #[.int .i64 x] w fun e w' => e = .returned (.bool false) ∧ w = w' := by
  go_enter Try.func133, Try.ntmps133
  go_wp2
  all_goals go_ret
  all_goals exact ⟨by simp, rfl⟩

set_option maxHeartbeats 400000 in
theorem cmp_any (x y : Int) (w : World) : Calls Try.prog 118 #[.int .i64 x, .int .i64 y] w fun e w' => e = .returned (.int .i64 (cmpI x y)) ∧ w = w' := by
  rcases Int.lt_trichotomy x y with h | h | h
  · have e : cmpI x y = -1 := by unfold cmpI; rw [if_pos h]
    rw [e]; clear e
    go_enter Try.func118, Try.ntmps118
    go_wp2_with (go_at_call 133; refine (isNaN_any _ _).mono ?_; rintro e w' ⟨rfl, rfl⟩)
    go_ret
    exact ⟨rfl, rfl⟩
  · subst h
    have e : cmpI x x = 0 := by unfold cmpI; simp
    rw [e]; clear e
    go_enter Try.func118, Try.ntmps118
    go_wp2_with (go_at_call 133; refine (isNaN_any _ _).mono ?_; rintro e w' ⟨rfl, rfl⟩)
    go_ret
    exact ⟨rfl, rfl⟩
  · have e : cmpI x y = 1 := by unfold cmpI; rw [if_neg (by omega), if_pos h]
    rw [e]; clear e
    have h' : ¬ x < y := by omega
    go_enter Try.func118, Try.ntmps118
    go_wp2_with (go_at_call 133; refine (isNaN_any _ _).mono ?_; rintro e w' ⟨rfl, rfl⟩)
    go_ret
    exact ⟨rfl, rfl⟩

/-! ### cmp.Or, the method compare -/

theorem or_any (a b : Int) (w : World) (B : Nat) (h0 : w.cell? ⟨B, 0, none⟩ = some (.int .i64 a)) (h1 : w.cell? ⟨B, 1, none⟩ = some (.int .i64 b)) :
    Calls Try.prog 117 #[.slice (some ⟨B, 0, none⟩) 2 2] w fun e w' => e = .returned (.int .i64 (orI a b)) ∧ w = w' := by
  by_cases ha : a = 0
  · subst ha
    by_cases hb : b = 0
    · subst hb
      have e : orI 0 0 = 0 := by decide
      rw [e]; clear e
      go_enter Try.func117, Try.ntmps117
      go_wp2
      go_rounds 3
      all_goals go_ret
      all_goals exact ⟨rfl, rfl⟩
    · have e : orI 0 b = b := by unfold orI; simp
      rw [e]; clear e
      have hb' : (b == 0) = false := by simpa using hb
      have hb2 : (b != 0) = true := by simpa using hb
      clear hb
      go_enter Try.func117, Try.ntmps117
      go_wp2
      go_rounds 3
      all_goals go_ret
      all_goals exact ⟨rfl, rfl⟩
  · have e : orI a b = a := by unfold orI; simp [ha]
    rw [e]; clear e
    have ha' : (a == 0) = false := by simpa using ha
    have ha2 : (a != 0) = true := by simpa using ha
    clear ha
    go_enter Try.func117, Try.ntmps117
    go_wp2
    go_rounds 3
    all_goals go_ret
    all_goals exact ⟨rfl, rfl⟩


set_option maxHeartbeats 400000 in
theorem compare_any (p q : Int × Int) (w : World) :
    Calls Try.prog 91 #[.agg #[.int .i64 p.1, .int .i64 p.2], .agg #[.int .i64 q.1, .int .i64 q.2]] w fun e w' => e = .returned (.int .i64 (cmpP p q)) ∧ Below w.heap.size w w' := by
  obtain ⟨a, b⟩ := p
  obtain ⟨c, d⟩ := q
  simp only [cmpP]
  have hB : Below w.heap.size w ((w.alloc (.cells #[.int .i64 a, .int .i64 b] 122)).alloc (.cells #[.int .i64 c, .int .i64 d] 122)) := ((Below.refl _ _).alloc (Nat.le_refl _) _).alloc (by simp) _
  have k0 := cell_regrown (w := (w.alloc (.cells #[.int .i64 a, .int .i64 b] 122)).alloc (.cells #[.int .i64 c, .int .i64 d] 122)) (a := ⟨w.heap.size, 0, none⟩) (v := .int .i64 a) (by simp)
  have k1 := cell_regrown (w := (w.alloc (.cells #[.int .i64 a, .int .i64 b] 122)).alloc (.cells #[.int .i64 c, .int .i64 d] 122)) (a := ⟨w.heap.size, 1, none⟩) (v := .int .i64 b) (by simp)
  have k2 := cell_regrown (w := (w.alloc (.cells #[.int .i64 a, .int .i64 b] 122)).alloc (.cells #[.int .i64 c, .int .i64 d] 122)) (a := ⟨w.heap.size + 1, 0, none⟩) (v := .int .i64 c) (by simp)
  have k3 := cell_regrown (w := (w.alloc (.cells #[.int .i64 a, .int .i64 b] 122)).alloc (.cells #[.int .i64 c, .int .i64 d] 122)) (a := ⟨w.heap.size + 1, 1, none⟩) (v := .int .i64 d) (by simp)
  go_enter Try.func91, Try.ntmps91
  go_wp2
  refine Qt.below_tail 10 (by kernel_rfl) (by kernel_rfl) ?_
  generalize (w.alloc (.cells #[.int .i64 a, .int .i64 b] 122)).alloc (.cells #[.int .i64 c, .int .i64 d] 122) = W at *
  simp only [List.take_succ_cons, List.take_zero, List.drop_succ_cons, List.drop_zero]
  repeat (go_big_quiet_step (first | (go_at_call 118; exact Qt.at_same fun _ _ => cmp_any _ _ _)))
  refine wpQuiet_nil ?_
  intro w1 hb1
  go_wp2_with fail
  refine (or_any (cmpI b d) (cmpI a c) _ w1.heap.size (by simp) (by simp)).mono ?_
  rintro e w' ⟨rfl, rfl⟩
  go_wp2
  go_ret
  exact ⟨rfl, (hB.trans (hb1.mono hB.size)).alloc (Nat.le_trans hB.size hb1.size) _⟩

/-! ### bounds -/

theorem beyond_any (p : Int × Int) (w : World) :
    Calls Try.prog 88 #[.agg #[.int .i64 p.1, .int .i64 p.2]] w fun e w' => e = .returned (.bool (!inB p)) ∧ Below w.heap.size w w' := by
  obtain ⟨a, b⟩ := p
  generalize hr : inB (a, b) = r
  have HR := Lib.hid hr
  clear hr
  go_enter Try.func88, Try.ntmps88
  go_wp2
  all_goals go_ret
  all_goals refine ⟨?_, (Below.refl _ _).alloc (Nat.le_refl _) _⟩
  all_goals (refine Qt.ret_bool ?_; rw [← HR.out]; simp [inB]; omega)

theorem in_any (p : Int × Int) (w : World) :
    Calls Try.prog 57 #[.agg #[.int .i64 p.1, .int .i64 p.2]] w fun e w' => e = .returned (.bool (inB p)) ∧ Below w.heap.size w w' := by
  obtain ⟨a, b⟩ := p
  generalize hr : inB (a, b) = r
  have HR := Lib.hid hr
  clear hr
  go_enter Try.func57, Try.ntmps57
  go_wp2
  all_goals go_ret
  all_goals refine ⟨?_, (Below.refl _ _).alloc (Nat.le_refl _) _⟩
  all_goals (refine Qt.ret_bool ?_; rw [← HR.out]; simp [inB]; omega)


theorem less_any (p q : Int × Int) (w : World) :
    Calls Try.prog 74 #[.agg #[.int .i64 p.1, .int .i64 p.2], .agg #[.int .i64 q.1, .int .i64 q.2]] w fun e w' => e = .returned (.bool (lessB p q)) ∧ Below w.heap.size w w' := by
  obtain ⟨a, b⟩ := p
  obtain ⟨c, d⟩ := q
  generalize hr : lessB (a, b) (c, d) = r
  have HR := Lib.hid hr
  clear hr
  go_enter Try.func74, Try.ntmps74
  go_wp2
  all_goals go_ret
  all_goals refine ⟨?_, ((Below.refl _ _).alloc (Nat.le_refl _) _).alloc (by simp) _⟩
  all_goals (refine Qt.ret_bool ?_; rw [← HR.out]; simp [lessB] at *; omega)


theorem pick_any (c n : Int) (w : World) (h1 : -9223372036854775808 ≤ c) (h2 : c ≤ 9223372036854775807) (hn : 1 ≤ n) (hn2 : n ≤ 9223372036854775807) :
    Calls Try.prog 62 #[.int .i64 c, .int .i64 n] w fun e w' => e = .returned (.int .i64 (pickI c n)) ∧ w = w' := by
  generalize hr : pickI c n = r
  have HR := Lib.hid hr
  clear hr
  go_enter Try.func62, Try.ntmps62
  go_wp2
  all_goals go_ret
  all_goals refine ⟨?_, rfl⟩
  all_goals (refine Qt.ret_int ?_; rw [← HR.out]; unfold pickI)
  · rw [if_pos (by assumption), ← Int.neg_tmod, Int.tmod_eq_emod_of_nonneg (by omega)]
  · rw [if_neg (by omega)]

end Go.Proofs.Ytikgnjcjbjafaaa.Cel
