/-
  Texts that the claims of this seat share, part 15.
-/
import Derived.Test.YtmmaeikeafemaaaGreatB14
import Derived.Deep.RegionWith
import Derived.Test.YtmmaeikeafemaaaGreatB04
import Derived.Test.YtmmaeikeafemaaaGreatB13
import Derived.Test.YtmmaeikeafemaaaGreatB00
import Derived.Test.YtmmaeikeafemaaaGreatB07
import Derived.Test.YtmmaeikeafemaaaGreatB06
import Derived.Test.YtmmaeikeafemaaaGreatB12
set_option linter.unusedVariables false
set_option linter.unusedSimpArgs false
namespace Go.Proofs.YtmmaeikeafemaaaGreat
set_option linter.unusedVariables false
set_option linter.unusedSimpArgs false
open Go.RowKit Go.Sort

def rd5 (r : Raw5) : Nat → Int
  | 0 => r.1
  | 1 => r.2.1
  | 2 => r.2.2.1
  | 3 => r.2.2.2.1
  | _ => r.2.2.2.2
def rawV (r : Raw5) : Value := .agg #[.int .i64 r.1, .int .i64 r.2.1, .int .i64 r.2.2.1, .int .i64 r.2.2.2.1, .int .i64 r.2.2.2.2]
def Fine5 (r : Raw5) : Prop := I64 r.1 ∧ I64 r.2.1 ∧ I64 r.2.2.1 ∧ I64 r.2.2.2.1 ∧ I64 r.2.2.2.2
theorem Fine5.at_ {r : Raw5} (h : Fine5 r) : ∀ i, I64 (rd5 r i) := by
  intro i
  match i with
  | 0 => exact h.1
  | 1 => exact h.2.1
  | 2 => exact h.2.2.1
  | 3 => exact h.2.2.2.1
  | n + 4 => exact h.2.2.2.2
/-- so many of the four -/
def kdTo (K : Kd) (n : Nat) : Kd := (if 0 < n then K.1 else 0, if 1 < n then K.2.1 else 0, if 2 < n then K.2.2.1 else 0, if 3 < n then K.2.2.2 else 0)
theorem kdTo_4 (K : Kd) : kdTo K 4 = K := rfl
theorem kids6_kd (l : List Nd) (r : Raw5) : ∀ i, i < 4 → kd (kids6 l r) i = pickOf (sameTo l (levOf l r) l.length) (rd5 r i) := by
  intro i hi
  match i, hi with
  | 0, _ => rfl
  | 1, _ => rfl
  | 2, _ => rfl
  | 3, _ => rfl
theorem kdTo_set {w : World} {g T : Nat} {K : Kd} {k : Nat} (hk : k < 4) (h : w.heap[g]? = some (.cells #[.int .i64 (kdTo K k).1, .int .i64 (kdTo K k).2.1, .int .i64 (kdTo K k).2.2.1, .int .i64 (kdTo K k).2.2.2] T (0, 0))) :
    (w.setCell ⟨g, k, none⟩ (.int .i64 (kd K k))).heap[g]? = some (.cells #[.int .i64 (kdTo K (k + 1)).1, .int .i64 (kdTo K (k + 1)).2.1, .int .i64 (kdTo K (k + 1)).2.2.1, .int .i64 (kdTo K (k + 1)).2.2.2] T (0, 0)) := by
  match k, hk with
  | 0, _ => simp [World.setCell, Array.getElem?_modify, h, kdTo, kd]
  | 1, _ => simp [World.setCell, Array.getElem?_modify, h, kdTo, kd]
  | 2, _ => simp [World.setCell, Array.getElem?_modify, h, kdTo, kd]
  | 3, _ => simp [World.setCell, Array.getElem?_modify, h, kdTo, kd]
theorem kdTo_cell {w : World} {g T : Nat} {K : Kd} {k j : Nat} (hj : j < 4) (h : w.heap[g]? = some (.cells #[.int .i64 (kdTo K k).1, .int .i64 (kdTo K k).2.1, .int .i64 (kdTo K k).2.2.1, .int .i64 (kdTo K k).2.2.2] T (0, 0))) :
    w.cell? ⟨g, j, none⟩ = some (.int .i64 (kd (kdTo K k) j)) := by
  rw [Lib.cell_of_heap h]
  match j, hj with
  | 0, _ => rfl
  | 1, _ => rfl
  | 2, _ => rfl
  | 3, _ => rfl
/-- What is known within Kids. -/
structure KidHead (w wr : World) (A : Option Addr) (n c : Nat) (room : Int) (r : Raw5) : Prop where
  store : wr.heap[w.heap.size]? = some (.cells #[.slice A n c, .int .i64 room] 26 (0, 0))
  raw : wr.heap[w.heap.size + 1]? = some (.cells #[.int .i64 r.1, .int .i64 r.2.1, .int .i64 r.2.2.1, .int .i64 r.2.2.2.1, .int .i64 r.2.2.2.2] 89 (0, 0))
  res : wr.heap[w.heap.size + 2]? = some (.cells #[.int .i64 0, .int .i64 0, .int .i64 0, .int .i64 0] 55 (0, 0))
  bel : Below w.heap.size w wr
section
variable {w wr w' : World} {A : Option Addr} {n c : Nat} {room : Int} {r : Raw5}
theorem KidHead.size (h : KidHead w wr A n c room r) : w.heap.size + 3 ≤ wr.heap.size := lt_heap6 h.res
theorem KidHead.below (h : KidHead w wr A n c room r) (hb : Below (w.heap.size + 3) wr w') : KidHead w w' A n c room r :=
  ⟨(hb.block _ (by omega)).trans h.store, (hb.block _ (by omega)).trans h.raw, (hb.block _ (by omega)).trans h.res, h.bel.trans (hb.mono (by omega))⟩
theorem KidHead.s0 (h : KidHead w wr A n c room r) : wr.cell? ⟨w.heap.size, 0, none⟩ = some (.slice A n c) := by rw [Lib.cell_of_heap h.store]; rfl
theorem KidHead.r_ (h : KidHead w wr A n c room r) {i : Nat} (hi : i < 5) : wr.cell? ⟨w.heap.size + 1, i, none⟩ = some (.int .i64 (rd5 r i)) := by
  rw [Lib.cell_of_heap h.raw]
  match i, hi with
  | 0, _ => rfl
  | 1, _ => rfl
  | 2, _ => rfl
  | 3, _ => rfl
  | 4, _ => rfl
end
theorem kidHead_0 (w : World) (A : Option Addr) (n c : Nat) (room : Int) (r : Raw5) : KidHead w (((w.alloc (.cells #[.slice A n c, .int .i64 room] 26)).alloc (.cells #[.int .i64 r.1, .int .i64 r.2.1, .int .i64 r.2.2.1, .int .i64 r.2.2.2.1, .int .i64 r.2.2.2.2] 89)).alloc (.cells #[.int .i64 0, .int .i64 0, .int .i64 0, .int .i64 0] 55)) A n c room r := by
  have h1 := storeAt_0 w A n c room
  have hs := lt_heap6 h1.store
  have hsz : (w.alloc (.cells #[.slice A n c, .int .i64 room] 26)).heap.size = w.heap.size + 1 := by simp
  have hsz2 : ((w.alloc (.cells #[.slice A n c, .int .i64 room] 26)).alloc (.cells #[.int .i64 r.1, .int .i64 r.2.1, .int .i64 r.2.2.1, .int .i64 r.2.2.2.1, .int .i64 r.2.2.2.2] 89)).heap.size = w.heap.size + 2 := by simp
  refine ⟨(Lib.alloc_old _ _ _ (by omega)).trans ((Lib.alloc_old _ _ _ (by omega)).trans h1.store), (Lib.alloc_old _ _ _ (by omega)).trans ?_, ?_, (h1.bel.alloc (by omega) _).alloc (by omega) _⟩
  · rw [← hsz]
    exact heap_alloc_new _ _
  · rw [← hsz2]
    exact heap_alloc_new _ _

/-- what was told -/
theorem kid_told {w wr : World} {K : Kd} (h : wr.heap[w.heap.size + 2]? = some (.cells #[.int .i64 0, .int .i64 0, .int .i64 0, .int .i64 0] 55 (0, 0))) (hb : Below w.heap.size w wr) :
    ((((wr.setCell ⟨w.heap.size + 1 + 1, 0, none⟩ (.int .i64 K.1)).setCell ⟨w.heap.size + 1 + 1, 1, none⟩ (.int .i64 K.2.1)).setCell ⟨w.heap.size + 1 + 1, 2, none⟩ (.int .i64 K.2.2.1)).setCell ⟨w.heap.size + 1 + 1, 3, none⟩ (.int .i64 K.2.2.2)).heap[w.heap.size + 1 + 1]? = some (.cells #[.int .i64 K.1, .int .i64 K.2.1, .int .i64 K.2.2.1, .int .i64 K.2.2.2] 55 (0, 0)) ∧
    Below w.heap.size w ((((wr.setCell ⟨w.heap.size + 1 + 1, 0, none⟩ (.int .i64 K.1)).setCell ⟨w.heap.size + 1 + 1, 1, none⟩ (.int .i64 K.2.1)).setCell ⟨w.heap.size + 1 + 1, 2, none⟩ (.int .i64 K.2.2.1)).setCell ⟨w.heap.size + 1 + 1, 3, none⟩ (.int .i64 K.2.2.2)) := by
  refine ⟨by simp [World.setCell, Array.getElem?_modify, h], ?_⟩
  exact (((hb.setCell (by show _ ≤ _ + 1 + 1; omega) _).setCell (by show _ ≤ _ + 1 + 1; omega) _).setCell (by show _ ≤ _ + 1 + 1; omega) _).setCell (by show _ ≤ _ + 1 + 1; omega) _

set_option maxHeartbeats 4000000 in
set_option maxRecDepth 100000 in
theorem kids6_any (A : Option Addr) (l : List Nd) (c : Nat) (room : Int) (r : Raw5) (w : World) (hR : RdN w w.heap.size A l) (hl : l.length ≤ 100000) (hr : Fine5 r) :
    Calls Tryz.prog 57 #[storeV A l.length c room, rawV r] w fun e w' => e = .returned (kidsV (kids6 l r)) ∧ Below w.heap.size w w' := by
  have HH0 := Lib.hid (kidHead_0 w A l.length c room r)
  have s0 := HH0.out.s0
  have k4 := HH0.out.r_ (i := 4) (by decide)
  simp only [rd5] at k4
  obtain ⟨lev, hlev⟩ : ∃ lev, lev = levOf l r := ⟨_, rfl⟩
  have hkk := kids6_kd l r
  rw [← hlev] at hkk
  obtain ⟨K, hK⟩ : ∃ K, K = kids6 l r := ⟨_, rfl⟩
  rw [← hK] at hkk ⊢
  have HKK := Lib.hid hkk
  have HK := Lib.hid hK
  unfold storeV rawV
  clear hkk hK
  by_cases h0 : 0 < l.length
  · have h0z : (l.length : Int) > 0 := by omega
    obtain ⟨m, hm⟩ : ∃ m, m = (pickI r.2.2.2.2 l.length).toNat := ⟨_, rfl⟩
    have hmb := pickI_bd r.2.2.2.2 l.length (by omega)
    have hml : m < l.length := by omega
    have hpick := fun W => pick_nat r.2.2.2.2 l.length W hr.2.2.2.2 (by omega) (by omega)
    rw [← hm] at hpick
    have hlv : (l.getD m deadN).1 = lev := by
      rw [hlev]
      unfold levOf
      rw [if_pos h0, hm]
      rfl
    have hSpos : 0 < (sameTo l lev l.length).length := List.length_pos_of_mem (sameTo_mem hml hlv)
    obtain ⟨b0, off, rfl, hbB, hcell⟩ := hR.at_ h0
    obtain ⟨m0, _, _, _, _, _⟩ := hcell m hml
    rw [hlv] at m0
    have m0 := Qt.keep HH0.out.bel m0
    have hd0 : decide ((m : Int) < 0) = false := decide_eq_false (by omega)
    have hd1 : decide (l.length ≤ m) = false := decide_eq_false (by omega)
    have hmlz : (m : Int) < (l.length : Int) := by omega
    clear hm hmb hlv hlev hcell
    go_enter Tryz.func57, Tryz.ntmps57
    go_wp2_with fail
    generalize ((w.alloc (.cells #[.slice (some ⟨b0, off, none⟩) l.length c, .int .i64 room] 26)).alloc (.cells #[.int .i64 r.1, .int .i64 r.2.1, .int .i64 r.2.2.1, .int .i64 r.2.2.2.1, .int .i64 r.2.2.2.2] 89)).alloc (.cells #[.int .i64 0, .int .i64 0, .int .i64 0, .int .i64 0] 55) = w0 at *
    have q0 := Qt.cell_in s0
    have q1 := Qt.cell_in k4
    have q2 := Qt.cell_in m0
    refine Qt.below_all (by kernel_rfl) (by kernel_rfl) ?_
    repeat (go_big_quiet_step (first | (go_at_call 55; exact Qt.at_same fun _ _ => hpick _)))
    refine wpQuiet_nil ?_
    intro w1 hb1
    have H1 := HH0.out.below (hb1.mono HH0.out.size)
    clear q0 q1 q2 s0 k4 m0 hd0 hd1 hpick hb1
    have HR := Lib.hid hR
    have HF := Lib.hid hr
    clear hr
    have hlen0 := h0
    clear h0 h0z hml hmlz m0
    go_wp2_with fail
    go_loopw [5, 7] (fun v i wr => ∃ j : Nat, j ≤ l.length ∧ i = .int .i64 j ∧ Hid (KidHead w wr (some ⟨b0, off, none⟩) l.length c room r ∧ Own wr (w.heap.size + 3) v (sameTo l lev j))) (fun _ i _ => l.length - (intOf i).toNat)
    case atStart => exact ⟨0, Nat.zero_le _, rfl, H1, World.ownsRow_nil _ _ _ _⟩
    case round =>
      obtain ⟨j, hj, rfl, HH⟩ := hrel
      have H := HH.out.1
      have s0 := H.s0
      by_cases hlt : j < l.length
      · have hltz : (j : Int) < (l.length : Int) := by omega
        obtain ⟨b1, off1, he, hbB1, hcell⟩ := HR.out.at_ hlen0
        obtain ⟨rfl, rfl⟩ : b0 = b1 ∧ off = off1 := by injection he with he; injection he with h1 h2; exact ⟨h1, h2⟩
        obtain ⟨n0, _, _, _, _, _⟩ := hcell j hlt
        have n0 := Qt.keep H.bel n0
        have hsucc := sameTo_succ l lev j
        have hsl := sameTo_len l lev j
        clear hcell he
        generalize (l.getD j deadN).1 = x at *
        by_cases hx : x = lev
        · subst hx
          rw [if_pos rfl] at hsucc
          obtain ⟨v', w', hrun, hown, hb2⟩ := push_any (j : Int) H.size HH.out.2 (by omega)
          have HS := Lib.hid hsucc
          have HN : Hid (KidHead w w' (some ⟨b0, off, none⟩) l.length c room r ∧ Own w' (w.heap.size + 3) v' (sameTo l x (j + 1))) := ⟨H.below hb2, by rw [hsucc]; exact hown⟩
          have HRUN := Lib.hid hrun
          clear hsucc hown hrun hsl hb2
          go_wp2_with (at_builtin; refine Lib.wpList_append_run _ rfl (.tmp 40) (.tmp 42) 35 35 rfl _ _ rfl rfl _ _ HRUN.out ?_)
          go_roundw
          case measure => simp [intOf]; omega
          case rel => exact ⟨j + 1, by omega, by go_num, HN.out⟩
        · rw [if_neg hx] at hsucc
          have hown := HH.out.2
          rw [← hsucc] at hown
          have HN := Lib.hid (And.intro H hown)
          clear hsucc hsl HH H hown
          go_wp2
          go_roundw
          case measure => simp [intOf]; omega
          case rel => exact ⟨j + 1, by omega, by go_num, HN.out⟩
      · obtain rfl : j = l.length := by omega
        have hltz : ¬ (l.length : Int) < (l.length : Int) := by omega
        obtain ⟨A2, c2, rfl, hc2, hN⟩ := HH.out.2.reads
        have hsl := sameTo_len l lev l.length
        generalize sameTo l lev l.length = S at *
        have hgs := H.size
        have hrow := heap_alloc_new wr (.cells #[.int .i64 0, .int .i64 0, .int .i64 0, .int .i64 0] 55 (0, 0))
        have hba : Below wr.heap.size wr (wr.alloc (.cells #[.int .i64 0, .int .i64 0, .int .i64 0, .int .i64 0] 55)) := (Below.refl _ _).alloc (Nat.le_refl _) _
        have h20 := Lib.hid (And.intro (H.below (hba.mono hgs)) (And.intro (show (wr.alloc (.cells #[.int .i64 0, .int .i64 0, .int .i64 0, .int .i64 0] 55)).heap[wr.heap.size]? = some (.cells #[.int .i64 (kdTo K 0).1, .int .i64 (kdTo K 0).2.1, .int .i64 (kdTo K 0).2.2.1, .int .i64 (kdTo K 0).2.2.2] 55 (0, 0)) from hrow) (Rd.below hN hba (Nat.le_refl _))))
        have hSz : (S.length : Int) > 0 := by omega
        clear hrow hba hN HH H
        go_wp2_with fail
        generalize wr.alloc (.cells #[.int .i64 0, .int .i64 0, .int .i64 0, .int .i64 0] 55) = wx at *
        generalize wr.heap.size = g at *
        clear s0
        go_loopw [9] (fun i wq => ∃ k : Nat, k ≤ 4 ∧ i = .int .i64 k ∧ Hid (KidHead w wq (some ⟨b0, off, none⟩) l.length c room r ∧ wq.heap[g]? = some (.cells #[.int .i64 (kdTo K k).1, .int .i64 (kdTo K k).2.1, .int .i64 (kdTo K k).2.2.1, .int .i64 (kdTo K k).2.2.2] 55 (0, 0)) ∧ Rd wq g A2 S)) (fun i _ => 4 - (intOf i).toNat)
        case atStart => exact ⟨0, by omega, rfl, h20⟩
        case round =>
          obtain ⟨k, hk, rfl, HH⟩ := hrel
          obtain ⟨H, hrow, hRd⟩ := HH.out
          by_cases hlt : k < 4
          · have hltz : (k : Int) < 4 := by omega
            obtain ⟨q, hq⟩ : ∃ q, q = (pickI (rd5 r k) S.length).toNat := ⟨_, rfl⟩
            have hqb := pickI_bd (rd5 r k) S.length (by omega)
            have hql : q < S.length := by omega
            have hpick := fun W => pick_nat (rd5 r k) S.length W (HF.out.at_ k) (by omega) (by omega)
            rw [← hq] at hpick
            have hkd : kd K k = S.getD q 0 := by
              rw [HKK.out k hlt]
              unfold pickOf
              rw [if_pos hSpos, hq]
              rfl
            obtain ⟨b1, off1, rfl, hb1g, hcell⟩ := hRd.at_ hSpos
            have hc := hcell q hql
            rw [← hkd] at hc
            have r_ := H.r_ (i := k) (by omega)
            have hqz : (q : Int) < (S.length : Int) := by omega
            have hkz : (k : Int) < 5 := by omega
            have gc := kdTo_cell hlt hrow
            have gf := Lib.frozen_of_heap hrow k
            have hbs : Below g wr (wr.setCell ⟨g, k, none⟩ (.int .i64 (kd K k))) := (Below.refl _ _).setCell (by show g ≤ g; omega) _
            have HN := Lib.hid (And.intro (H.below (hbs.mono hgs)) (And.intro (kdTo_set hlt hrow) (Rd.below hRd hbs (Nat.le_refl _))))
            clear hq hqb hcell hrow hRd HH H hbs h20 hkd
            generalize rd5 r k = x at *
            generalize kd K k = y at *
            generalize kd (kdTo K k) k = z at *
            go_wp2_with fail
            refine (hpick _).mono ?_
            rintro e w' ⟨rfl, rfl⟩
            clear hpick
            go_wp2
            go_roundw
            case measure => simp [intOf]; omega
            case rel => exact ⟨k + 1, by omega, by go_num, HN⟩
          · obtain rfl : k = 4 := by omega
            have hltz : ¬ ((4 : Nat) : Int) < 4 := by decide
            have c0 := kdTo_cell (j := 0) (by decide) hrow
            have c1 := kdTo_cell (j := 1) (by decide) hrow
            have c2 := kdTo_cell (j := 2) (by decide) hrow
            have c3 := kdTo_cell (j := 3) (by decide) hrow
            rw [kdTo_4] at c0 c1 c2 c3
            simp only [kd] at c0 c1 c2 c3
            have hres := H.res
            have t0 : wr.cell? ⟨w.heap.size + 1 + 1, 0, none⟩ = some (.int .i64 0) := by rw [Lib.cell_of_heap hres]; rfl
            have t1 : wr.cell? ⟨w.heap.size + 1 + 1, 1, none⟩ = some (.int .i64 0) := by rw [Lib.cell_of_heap hres]; rfl
            have t2 : wr.cell? ⟨w.heap.size + 1 + 1, 2, none⟩ = some (.int .i64 0) := by rw [Lib.cell_of_heap hres]; rfl
            have t3 : wr.cell? ⟨w.heap.size + 1 + 1, 3, none⟩ = some (.int .i64 0) := by rw [Lib.cell_of_heap hres]; rfl
            have f0 : wr.frozen? ⟨w.heap.size + 1 + 1, 0, none⟩ = false := Lib.frozen_of_heap hres 0
            have f1 : wr.frozen? ⟨w.heap.size + 1 + 1, 1, none⟩ = false := Lib.frozen_of_heap hres 1
            have f2 : wr.frozen? ⟨w.heap.size + 1 + 1, 2, none⟩ = false := Lib.frozen_of_heap hres 2
            have f3 : wr.frozen? ⟨w.heap.size + 1 + 1, 3, none⟩ = false := Lib.frozen_of_heap hres 3
            have hbel := H.bel
            have HT := Lib.hid (kid_told (K := K) hres hbel)
            clear HH hRd H h20 hrow
            go_wp2
            refine bodyPost_ret (results_cell1 rfl _ _ (w.heap.size + 1 + 1) _ _ _ _ rfl HT.out.1 Tryz.underlying55 rfl (by kernel_rfl)) rfl ?_
            exact ⟨rfl, HT.out.2⟩
  · obtain rfl : l = [] := List.eq_nil_of_length_eq_zero (by omega)
    have hK0 : K = (0, 0, 0, 0) := HK.out
    subst hK0
    have h0z : ¬ (([] : List Nd).length : Int) > 0 := by decide
    have h0y : ¬ (0 : Int) < (([] : List Nd).length : Int) := by decide
    clear hlev HKK HK k4 h0z h0y h0 hr hR hl
    simp only [List.length_nil] at HH0 s0 ⊢
    go_enter Tryz.func57, Tryz.ntmps57
    go_wp2_with fail
    generalize ((w.alloc (.cells #[.slice A 0 c, .int .i64 room] 26)).alloc (.cells #[.int .i64 r.1, .int .i64 r.2.1, .int .i64 r.2.2.1, .int .i64 r.2.2.2.1, .int .i64 r.2.2.2.2] 89)).alloc (.cells #[.int .i64 0, .int .i64 0, .int .i64 0, .int .i64 0] 55) = w0 at *
    go_loopw [5, 7] (fun v i wr => v = .slice none 0 0 ∧ i = .int .i64 0 ∧ wr = w0) (fun _ i _ => 0)
    case atStart => exact ⟨rfl, rfl, rfl⟩
    case round =>
      obtain ⟨rfl, rfl, rfl⟩ := hrel
      have H := HH0.out
      have hgs := H.size
      have hrow := heap_alloc_new wr (.cells #[.int .i64 0, .int .i64 0, .int .i64 0, .int .i64 0] 55 (0, 0))
      have hba : Below wr.heap.size wr (wr.alloc (.cells #[.int .i64 0, .int .i64 0, .int .i64 0, .int .i64 0] 55)) := (Below.refl _ _).alloc (Nat.le_refl _) _
      have H2 := H.below (hba.mono hgs)
      clear H HH0 hba
      go_wp2_with fail
      generalize wr.alloc (.cells #[.int .i64 0, .int .i64 0, .int .i64 0, .int .i64 0] 55) = wx at *
      generalize wr.heap.size = g at *
      clear s0
      go_loopw [9] (fun i wq => i = .int .i64 0 ∧ wq = wx) (fun i _ => 0)
      case atStart => exact ⟨rfl, rfl⟩
      case round =>
        obtain ⟨rfl, rfl⟩ := hrel
        have c0 : wr.cell? ⟨g, 0, none⟩ = some (.int .i64 0) := by rw [Lib.cell_of_heap hrow]; rfl
        have c1 : wr.cell? ⟨g, 1, none⟩ = some (.int .i64 0) := by rw [Lib.cell_of_heap hrow]; rfl
        have c2 : wr.cell? ⟨g, 2, none⟩ = some (.int .i64 0) := by rw [Lib.cell_of_heap hrow]; rfl
        have c3 : wr.cell? ⟨g, 3, none⟩ = some (.int .i64 0) := by rw [Lib.cell_of_heap hrow]; rfl
        have hres := H2.res
        have t0 : wr.cell? ⟨w.heap.size + 1 + 1, 0, none⟩ = some (.int .i64 0) := by rw [Lib.cell_of_heap hres]; rfl
        have t1 : wr.cell? ⟨w.heap.size + 1 + 1, 1, none⟩ = some (.int .i64 0) := by rw [Lib.cell_of_heap hres]; rfl
        have t2 : wr.cell? ⟨w.heap.size + 1 + 1, 2, none⟩ = some (.int .i64 0) := by rw [Lib.cell_of_heap hres]; rfl
        have t3 : wr.cell? ⟨w.heap.size + 1 + 1, 3, none⟩ = some (.int .i64 0) := by rw [Lib.cell_of_heap hres]; rfl
        have f0 : wr.frozen? ⟨w.heap.size + 1 + 1, 0, none⟩ = false := Lib.frozen_of_heap hres 0
        have f1 : wr.frozen? ⟨w.heap.size + 1 + 1, 1, none⟩ = false := Lib.frozen_of_heap hres 1
        have f2 : wr.frozen? ⟨w.heap.size + 1 + 1, 2, none⟩ = false := Lib.frozen_of_heap hres 2
        have f3 : wr.frozen? ⟨w.heap.size + 1 + 1, 3, none⟩ = false := Lib.frozen_of_heap hres 3
        have HT := Lib.hid (kid_told (K := (0, 0, 0, 0)) hres H2.bel)
        clear H2 hrow
        go_wp2
        refine bodyPost_ret (results_cell1 rfl _ _ (w.heap.size + 1 + 1) _ _ _ _ rfl HT.out.1 Tryz.underlying55 rfl (by kernel_rfl)) rfl ?_
        exact ⟨rfl, HT.out.2⟩
end Go.Proofs.YtmmaeikeafemaaaGreat
namespace Go.Proofs.YtmmaeikeafemaaaGreat
set_option linter.unusedVariables false
set_option linter.unusedSimpArgs false
open Go.RowKit Go.Sort

def dead5 : Raw5 := (0, 0, 0, 0, 0)
/-- five numbers lie here -/
def R5At (w : World) (b o : Nat) (r : Raw5) : Prop := w.cell? ⟨b, o, none⟩ = some (.int .i64 r.1) ∧ w.cell? ⟨b, o + 1, none⟩ = some (.int .i64 r.2.1) ∧ w.cell? ⟨b, o + 2, none⟩ = some (.int .i64 r.2.2.1) ∧ w.cell? ⟨b, o + 3, none⟩ = some (.int .i64 r.2.2.2.1) ∧ w.cell? ⟨b, o + 4, none⟩ = some (.int .i64 r.2.2.2.2)
theorem R5At.below {w w' : World} {b o B : Nat} {r : Raw5} (h : R5At w b o r) (hb : Below B w w') (hx : b < B) : R5At w' b o r := by
  obtain ⟨h0, h1, h2, h3, h4⟩ := h
  exact ⟨(hb.cell (p := ⟨b, o, none⟩) hx).trans h0, (hb.cell (p := ⟨b, o + 1, none⟩) hx).trans h1, (hb.cell (p := ⟨b, o + 2, none⟩) hx).trans h2, (hb.cell (p := ⟨b, o + 3, none⟩) hx).trans h3, (hb.cell (p := ⟨b, o + 4, none⟩) hx).trans h4⟩
/-- The slice at A reads as raw numbers, five by five. -/
def RdR (w : World) (B : Nat) (A : Option Addr) (l : List Raw5) : Prop :=
  ∀ j, j < l.length → ∃ b off, A = some ⟨b, off, none⟩ ∧ b < B ∧ R5At w b (off + j * 5) (l.getD j dead5)
theorem RdR.below {w w' : World} {B B' : Nat} {A : Option Addr} {l : List Raw5} (h : RdR w B A l) (hb : Below B' w w') (hB : B ≤ B') : RdR w' B A l := fun j hj => by
  obtain ⟨b, off, e, hlt, h0⟩ := h j hj
  exact ⟨b, off, e, hlt, h0.below hb (Nat.lt_of_lt_of_le hlt hB)⟩
/-- What is known within Store's loop. -/
structure StAt (w wr : World) (g : Nat) (R : Int) (m : List Nd) (B : Option Addr) (d : Nat) : Prop where
  res : wr.heap[w.heap.size]? = some (.cells #[.slice none 0 0, .int .i64 0] 26 (0, 0))
  row : wr.heap[g]? = some (.cells #[.slice B m.length d, .int .i64 R] 26 (0, 0))
  rd : RdN wr wr.heap.size B m
  cap : m.length ≤ d
  bel : Below w.heap.size w wr
  lo : w.heap.size + 1 ≤ g
theorem storeTo_succ (room : Int) (raw : List Raw5) (n : Nat) : storeTo room raw (n + 1) = (intern6 (storeTo room raw n) room (kids6 (storeTo room raw n) (raw.getD n dead5))).1 := rfl
theorem StAt.below {w wr w' : World} {g : Nat} {R : Int} {m : List Nd} {B : Option Addr} {d : Nat} (h : StAt w wr g R m B d) (hb : Below wr.heap.size wr w') : StAt w w' g R m B d :=
  ⟨(hb.block _ (lt_heap6 h.res)).trans h.res, (hb.block _ (lt_heap6 h.row)).trans h.row, (h.rd.below hb (Nat.le_refl _)).more hb.size, h.cap, Qt.more h.bel h.bel.size hb, h.lo⟩
/-- another store is told in the box -/
theorem StAt.put {w wr : World} {g : Nat} {R : Int} {m l : List Nd} {B A : Option Addr} {d c : Nat} (h : StAt w wr g R m B d) (hR : RdN wr wr.heap.size A l) (hc : l.length ≤ c) :
    StAt w ((wr.setCell ⟨g, 0, none⟩ (.slice A l.length c)).setCell ⟨g, 1, none⟩ (.int .i64 R)) g R l A c := by
  have hlo := h.lo
  have hk : ∀ q, q < g → ((wr.setCell ⟨g, 0, none⟩ (.slice A l.length c)).setCell ⟨g, 1, none⟩ (.int .i64 R)).heap[q]? = wr.heap[q]? := fun q hq => by
    rw [Below.heap_setCell _ _ _ _ (by simp; omega), Below.heap_setCell _ _ _ _ (by simp; omega)]
  exact ⟨(hk _ (by omega)).trans h.res, set_row h.row, (rdN_told hR h.row).more (by simp [World.setCell]), hc, (h.bel.setCell (by show _ ≤ g; omega) _).setCell (by show _ ≤ g; omega) _, hlo⟩

set_option maxHeartbeats 4000000 in
set_option maxRecDepth 100000 in
theorem store6_any (A : Option Addr) (raw : List Raw5) (c : Nat) (room : Int) (w : World) (hR : RdR w w.heap.size A raw) (hl : raw.length ≤ 9223372036854775807) (hI : I64 room) (hF : ∀ j, j < raw.length → Fine5 (raw.getD j dead5)) :
    Calls Tryz.prog 23 #[.int .i64 room, .slice A raw.length c] w (StoreR (store6 room raw) (2 + pick6 room 60) w) := by
  have hp := pick_any room 60 w hI.1 hI.2 (by decide) (by decide)
  have hpb := pickI_bd room 60 (by decide)
  obtain ⟨R, hRR⟩ : ∃ R, R = 2 + pickI room 60 := ⟨_, rfl⟩
  have hR2 : 2 ≤ R ∧ R ≤ 100000 := by omega
  have hst : store6 room raw = storeTo R raw (min raw.length 40) := by rw [hRR]; rfl
  have hto := fun k (hk : k ≤ 40) => storeTo_right hR2.1 hR2.2 raw k hk
  have hnew := fun W => refNew6_any R W
  have e1 : newL R = new6 := by unfold newL; rw [if_pos hR2]
  have e2 : newRoom R = R := by unfold newRoom; rw [if_pos hR2]
  rw [e1, e2] at hnew
  rw [show (2 + pick6 room 60) = R from hRR.symm]
  obtain ⟨z, hz⟩ : ∃ z, z = store6 room raw := ⟨_, rfl⟩
  rw [← hz] at hst ⊢
  have HZ := Lib.hid hst
  have HT := Lib.hid hto
  have HR := Lib.hid hR
  have HFF := Lib.hid hF
  clear hz hst hto e1 e2 hR hF
  have hRa : 2 + pickI room 60 = R := hRR.symm
  clear hRR
  have hrow0 := Lib.hid (heap_alloc_new w (.cells #[.slice none 0 0, .int .i64 0] 26 (0, 0)))
  have hb0 : Hid (Below w.heap.size w (w.alloc (.cells #[.slice none 0 0, .int .i64 0] 26))) := (Below.refl _ _).alloc (Nat.le_refl _) _
  clear hp
  have hp := fun W => pick_any room 60 W hI.1 hI.2 (by decide) (by decide)
  go_enter Tryz.func23, Tryz.ntmps23
  go_wp2_with fail
  generalize w.alloc (.cells #[.slice none 0 0, .int .i64 0] 26) = w0 at *
  refine (hp _).mono ?_
  rintro e w' ⟨rfl, rfl⟩
  clear hp
  go_wp2_with fail
  refine (hnew _).mono ?_
  rintro e w1 ⟨v, rfl, ⟨B0, d0, rfl, hd0, hN⟩, hb1⟩
  have h00 : StAt w (w1.alloc (.cells #[.slice B0 new6.length d0, .int .i64 R] 26)) w1.heap.size R new6 B0 d0 := by
    have hba : Below w1.heap.size w1 (w1.alloc (.cells #[.slice B0 new6.length d0, .int .i64 R] 26)) := (Below.refl _ _).alloc (Nat.le_refl _) _
    have hs0 := lt_heap6 hrow0.out
    have hr1 := (hb1.block _ hs0).trans hrow0.out
    have hs1 := lt_heap6 hr1
    have hbw : Below w.heap.size w w1 := Qt.more hb0.out (by omega) hb1
    exact ⟨(hba.block _ hs1).trans hr1, heap_alloc_new w1 _, (RdN.below hN hba (Nat.le_refl _)).more hba.size, hd0, Qt.more hbw hbw.size hba, hs1⟩
  have H00 := Lib.hid (And.intro h00 (show new6 = storeTo R raw 0 from rfl))
  clear h00 hN hb1 hb0 hrow0 hnew hRa
  obtain ⟨m0, hm0⟩ : ∃ m0, m0 = new6 := ⟨_, rfl⟩
  rw [← hm0] at H00 hd0 ⊢
  clear hm0
  go_wp2_with fail
  generalize w1.alloc (.cells #[.slice B0 m0.length d0, .int .i64 R] 26) = wx at *
  generalize w1.heap.size = g at *
  go_loopw [6] (fun i wr => ∃ (k : Nat) (m : List Nd) (B : Option Addr) (d : Nat), k ≤ 40 ∧ k ≤ raw.length ∧ i = .int .i64 k ∧ Hid (StAt w wr g R m B d ∧ m = storeTo R raw k)) (fun i _ => 40 - (intOf i).toNat)
  case atStart => exact ⟨0, m0, B0, d0, by omega, Nat.zero_le _, rfl, H00⟩
  case round =>
    obtain ⟨k, m, B, d, hk40, hkl, rfl, HH⟩ := hrel
    have H := HH.out.1
    have hrow := H.row
    have c0 : wr.cell? ⟨g, 0, none⟩ = some (.slice B m.length d) := by rw [Lib.cell_of_heap hrow]; rfl
    have c1 : wr.cell? ⟨g, 1, none⟩ = some (.int .i64 R) := by rw [Lib.cell_of_heap hrow]; rfl
    by_cases hlt : k < raw.length ∧ k < 40
    · obtain ⟨hlt1, hlt2⟩ := hlt
      have hz1 : (k : Int) < (raw.length : Int) := by omega
      have hz2 : (k : Int) < 40 := by omega
      have hRaw := HR.out k hlt1
      obtain ⟨b, off, rfl, hbB, x0, x1, x2, x3, x4⟩ := hRaw
      have hfine := HFF.out k hlt1
      have hnext := storeTo_succ R raw k
      rw [← HH.out.2] at hnext
      have hm6 := HT.out k hk40
      rw [← HH.out.2] at hm6
      generalize raw.getD k dead5 = r at *
      have hkids := fun W (hb : Below wr.heap.size wr W) => kids6_any B m d R r W ((H.rd.below hb (Nat.le_refl _)).more hb.size) (by omega) hfine
      have hint := fun W (hb : Below wr.heap.size wr W) => refIntern6_any B m d R (kids6 m r) W ((H.rd.below hb (Nat.le_refl _)).more hb.size) (by omega) H.cap (fun i hi => by have := right_bd hm6.1 i hi; omega)
      unfold storeV rawV kidsV at hkids
      unfold storeV kidsV at hint
      generalize kids6 m r = K at *
      obtain ⟨p, hp⟩ : ∃ p, p = intern6 m R K := ⟨_, rfl⟩
      rw [← hp] at hint hnext
      have HNX := Lib.hid hnext
      have q0 := Qt.cell_in (Qt.keep H.bel x0)
      have q1 := Qt.cell_in (Qt.keep H.bel x1)
      have q2 := Qt.cell_in (Qt.keep H.bel x2)
      have q3 := Qt.cell_in (Qt.keep H.bel x3)
      have q4 := Qt.cell_in (Qt.keep H.bel x4)
      have q5 := Qt.cell_in c0
      have q6 := Qt.cell_in c1
      clear x0 x1 x2 x3 x4 hfine hm6 hp hnext HH c0 c1
      go_wp2
      refine Qt.region_call_tree 7 (.only 8 (.pure 9 (.pure 10 (.pure 11 (.only 12 .done))))) (by kernel_rfl) (by kernel_rfl) rfl rfl rfl Tryz.func56 (by kernel_rfl) (by kernel_rfl) rfl ?_
      simp only [List.take_succ_cons, List.take_zero, List.drop_succ_cons, List.drop_zero]
      repeat (go_big_quiet_step (first | (go_at_call 57; exact Qt.at_call' hkids)))
      refine wpQuiet_nil ?_
      intro w3 hb3
      have hp := hint w3 hb3
      simp only [List.map_toArray, List.map_cons, List.map_nil]
      show Calls Tryz.prog _ #[.agg #[.slice B m.length d, .int .i64 R], .agg #[.int .i64 K.1, .int .i64 K.2.1, .int .i64 K.2.2.1, .int .i64 K.2.2.2]] w3 _
      refine hp.mono ?_
      rintro e w4 ⟨v, rfl, ⟨A4, c4, rfl, hc4, hR4⟩, hb4⟩
      have H4 := (H.below hb3).below hb4
      have hrow4 := H4.row
      have g0 : w4.cell? ⟨g, 0, none⟩ = some (.slice B m.length d) := by rw [Lib.cell_of_heap hrow4]; rfl
      have g1 : w4.cell? ⟨g, 1, none⟩ = some (.int .i64 R) := by rw [Lib.cell_of_heap hrow4]; rfl
      have f0 := Lib.frozen_of_heap hrow4 0
      have f1 := Lib.frozen_of_heap hrow4 1
      have HN := Lib.hid (And.intro (H4.put hR4 hc4) HNX.out.symm)
      clear hp hint hkids q0 q1 q2 q3 q4 q5 q6 hrow hrow4 H4 H hb3 hb4 hR4
      refine ⟨_, rfl, ?_⟩
      simp only [Act.put, List.setIfInBounds_toArray, List.set_cons_succ, List.set_cons_zero]
      refine ⟨_, rfl, ?_⟩
      go_wp2_with fail
      refine ⟨rfl, ?_⟩
      refine ⟨_, some 30, .agg #[.slice A4 p.1.length c4, .int .i64 R], rfl, rfl, ⟨rfl, fun _ => by first | rfl | (simp only [execOp]; go_simp)⟩, ?_⟩
      simp only [Act.put, List.setIfInBounds_toArray, List.set_cons_succ, List.set_cons_zero]
      refine ⟨_, some 31, .int .i64 p.2.1, rfl, rfl, ⟨rfl, fun _ => by first | rfl | (simp only [execOp]; go_simp)⟩, ?_⟩
      simp only [Act.put, List.setIfInBounds_toArray, List.set_cons_succ, List.set_cons_zero]
      refine ⟨_, some 32, .int .i64 p.2.2, rfl, rfl, ⟨rfl, fun _ => by first | rfl | (simp only [execOp]; go_simp)⟩, ?_⟩
      simp only [Act.put, List.setIfInBounds_toArray, List.set_cons_succ, List.set_cons_zero]
      refine ⟨_, rfl, ?_⟩
      go_wp2_with fail
      refine ⟨rfl, ?_⟩
      simp only [Qt.treeW]
      go_wp2
      go_roundw
      case measure => simp [intOf]; omega
      case rel => exact ⟨k + 1, p.1, A4, c4, by omega, by omega, by go_num, HN⟩
    · have hkm : k = min raw.length 40 := by omega
      have hzm : z = m := by rw [HZ.out, ← hkm, HH.out.2]
      subst hzm
      have hres := H.res
      have t0 : wr.cell? ⟨w.heap.size, 0, none⟩ = some (.slice none 0 0) := by rw [Lib.cell_of_heap hres]; rfl
      have t1 : wr.cell? ⟨w.heap.size, 1, none⟩ = some (.int .i64 0) := by rw [Lib.cell_of_heap hres]; rfl
      have f0 := Lib.frozen_of_heap hres 0
      have f1 := Lib.frozen_of_heap hres 1
      have hfin : ((wr.setCell ⟨w.heap.size, 0, none⟩ (.slice B z.length d)).setCell ⟨w.heap.size, 1, none⟩ (.int .i64 R)).heap[w.heap.size]? = some (.cells #[.slice B z.length d, .int .i64 R] 26 (0, 0)) ∧ StoreR z R w (.returned (.agg #[.slice B z.length d, .int .i64 R])) ((wr.setCell ⟨w.heap.size, 0, none⟩ (.slice B z.length d)).setCell ⟨w.heap.size, 1, none⟩ (.int .i64 R)) := by
        refine ⟨set_row hres, _, rfl, ⟨B, d, rfl, H.cap, (rdN_told H.rd hres).more (by simp [World.setCell])⟩, ?_⟩
        exact (H.bel.setCell (Nat.le_refl _) _).setCell (Nat.le_refl _) _
      have HFI := Lib.hid hfin
      have hz1 : (¬ (k : Int) < (raw.length : Int)) ∨ ((k : Int) < (raw.length : Int) ∧ ¬ (k : Int) < 40) := by omega
      clear HH H hrow hres hfin HZ hkm hlt
      rcases hz1 with hz1 | ⟨hz1, hz2⟩
      · go_wp2
        exact bodyPost_ret (results_cell1 rfl _ _ w.heap.size _ _ _ _ rfl HFI.out.1 Tryz.underlying26 rfl (by kernel_rfl)) rfl HFI.out.2
      · go_wp2
        exact bodyPost_ret (results_cell1 rfl _ _ w.heap.size _ _ _ _ rfl HFI.out.1 Tryz.underlying26 rfl (by kernel_rfl)) rfl HFI.out.2
end Go.Proofs.YtmmaeikeafemaaaGreat
namespace Go.Proofs.YtmmaeikeafemaaaGreat
set_option maxRecDepth 100000
set_option linter.unusedVariables false
set_option linter.unusedSimpArgs false
open Go.RowKit Go.Sort

theorem storeR_box {l : List Nd} {room : Int} {w : World} {e : Ending} {w' : World} (h : StoreR l room w e w') : ∃ A c, e = .returned (.agg #[.slice A l.length c, .int .i64 room]) ∧ l.length ≤ c ∧ NowN w' A l ∧ Below w.heap.size w w' := by
  obtain ⟨v, rfl, ⟨A, c, rfl, hc, hN⟩, hb⟩ := h
  exact ⟨A, c, rfl, hc, hN, hb⟩
theorem RdR.more {w : World} {B B' : Nat} {A : Option Addr} {l : List Raw5} (h : RdR w B A l) (hB : B ≤ B') : RdR w B' A l := fun j hj => by
  obtain ⟨b, off, e, hlt, h0⟩ := h j hj
  exact ⟨b, off, e, Nat.lt_of_lt_of_le hlt hB, h0⟩
theorem stB_put {w : World} {b : Nat} {A : Option Addr} {l : List Nd} {c : Nat} {room r : Int} {v : Value} (h : w.heap[b]? = some (.cells #[v, .int .i64 r] 26 (0, 0))) (hN : NowN w A l) (hc : l.length ≤ c) :
    StB ((w.setCell ⟨b, 0, none⟩ (.slice A l.length c)).setCell ⟨b, 1, none⟩ (.int .i64 room)) b A l c room :=
  ⟨by simp [World.setCell, Array.getElem?_modify, h], (rdN_told hN h).more (by simp [World.setCell]), hc⟩
end Go.Proofs.YtmmaeikeafemaaaGreat
namespace Go.Proofs.YtmmaeikeafemaaaGreat.Cel
open Go.RowKit Go.Sort

def rawCell (p : Int × Int) : Int × Int := (pickI p.1 16 - 8, pickI p.2 16 - 8)
/-- the cells that the first k raw numbers tell -/
def rawTo (raw : List (Int × Int)) (k : Nat) : List (Int × Int) := (raw.take k).map rawCell
/-- the set that the laws make of raw numbers -/
def rawSet (raw : List (Int × Int)) : List (Int × Int) := setL (rawTo raw 60)
theorem rawTo_succ {raw : List (Int × Int)} {k : Nat} (hk : k < raw.length) : rawTo raw (k + 1) = rawTo raw k ++ [rawCell (raw.getD k (0, 0))] := by
  unfold rawTo; rw [take_snoc hk, List.map_append]; rfl
theorem length_rawTo (raw : List (Int × Int)) (k : Nat) : (rawTo raw k).length ≤ k := by
  unfold rawTo; rw [List.length_map, List.length_take]; omega
theorem rawCell_bd (p : Int × Int) : -8 ≤ (rawCell p).1 ∧ (rawCell p).1 ≤ 7 ∧ -8 ≤ (rawCell p).2 ∧ (rawCell p).2 ≤ 7 := by
  have h1 := pickI_bd p.1 16 (by omega)
  have h2 := pickI_bd p.2 16 (by omega)
  unfold rawCell
  simp only
  omega
theorem rawTo_bd {raw : List (Int × Int)} {k : Nat} {p : Int × Int} (h : p ∈ rawTo raw k) : -8 ≤ p.1 ∧ p.1 ≤ 7 ∧ -8 ≤ p.2 ∧ p.2 ≤ 7 := by
  unfold rawTo at h
  obtain ⟨q, _, rfl⟩ := List.mem_map.1 h
  exact rawCell_bd q

/-- A slice that reads as a list, whatever its place and capacity. -/
def Reads (w : World) (v : Value) (l : List (Int × Int)) : Prop := ∃ A c, v = .slice A l.length c ∧ l.length ≤ c ∧ Rd w w.heap.size A l
theorem Reads.below {w w' : World} {v : Value} {l : List (Int × Int)} (h : Reads w v l) (hb : Below w.heap.size w w') : Reads w' v l := by
  obtain ⟨A, c, e, hc, hr⟩ := h
  exact ⟨A, c, e, hc, (hr.below hb (Nat.le_refl _)).more hb.size⟩

def I64 (x : Int) : Prop := -9223372036854775808 ≤ x ∧ x ≤ 9223372036854775807

set_option maxHeartbeats 1000000 in
theorem set_own (A : Option Addr) (raw : List (Int × Int)) (c : Nat) (w : World) (hR : Rd w w.heap.size A raw) (hl : raw.length ≤ 9223372036854775807) (hc : raw.length ≤ c) (hw : ∀ p ∈ raw, I64 p.1 ∧ I64 p.2) :
    Calls Tryz.prog 7 #[.slice A raw.length c] w fun e w' => ∃ v, e = .returned v ∧ Own w' 0 28 v (rawSet raw) ∧ Below w.heap.size w w' := by
  have HW := Lib.hid hw
  clear hw
  go_enter Tryz.func7, Tryz.ntmps7
  go_wp2
  go_loopw [3, 4] (fun v i wr => ∃ k : Nat, k ≤ raw.length ∧ k ≤ 60 ∧ i = .int .i64 k ∧ Aside (Own wr 0 28 v (setL (rawTo raw k))) ∧ Below w.heap.size w wr) (fun _ i _ => 60 - (intOf i).toNat)
  case atStart => exact ⟨0, Nat.zero_le _, by omega, rfl, World.ownsRow_nil _ _ _ _, Below.refl _ _⟩
  case round =>
    obtain ⟨k, hk, hk60, rfl, HO, hb⟩ := hrel
    by_cases hlt : k < raw.length ∧ k < 60
    · obtain ⟨hlt, h60⟩ := hlt
      have hltz : (k : Int) < (raw.length : Int) := by omega
      have h60z : (k : Int) < 60 := by omega
      obtain ⟨b, off, rfl, hbB, hcell⟩ := hR.at_ (by omega)
      obtain ⟨⟨x, y⟩, hxy⟩ : ∃ p, p = raw.getD k (0, 0) := ⟨_, rfl⟩
      obtain ⟨c0, c1⟩ := hcell k hlt
      rw [← hxy] at c0 c1
      simp only at c0 c1
      have c0 := Qt.keep hb c0
      have c1 := Qt.keep hb c1
      have hwf := HW.out _ (getD_mem hlt)
      rw [← hxy] at hwf
      have HWF := Lib.hid hwf
      have hbd := rawCell_bd (x, y)
      unfold rawCell at hbd
      simp only at hbd
      obtain ⟨n1, n2, n3, n4⟩ := hbd
      have HXY := Lib.hid hxy
      obtain ⟨A', c', hv, hc', hr'⟩ := HO.out.rd
      have hsl := length_setL (rawTo raw k)
      have hrl := length_rawTo raw k
      have k0 := Qt.cell_in c0
      have k1 := Qt.cell_in c1
      have HR' := Lib.hid hr'
      subst hv
      clear hxy hcell hwf hr'
      go_wp2
      refine Qt.below_tail 16 (by kernel_rfl) (by kernel_rfl) ?_
      simp only [List.take_succ_cons, List.take_zero, List.drop_succ_cons, List.drop_zero]
      repeat (go_big_quiet_step (first | (go_at_call_of 25 x; exact Qt.at_same fun _ _ => pick_any x 16 _ HWF.out.1.1 HWF.out.1.2 (by omega) (by omega)) | (go_at_call_of 25 y; exact Qt.at_same fun _ _ => pick_any y 16 _ HWF.out.2.1 HWF.out.2.2 (by omega) (by omega))))
      refine wpQuiet_nil ?_
      intro w1 hb1
      have HR1 := (HR'.out.below hb1 (Nat.le_refl _)).more hb1.size
      have hp := put_any A' (setL (rawTo raw k)) c' (pickI x 16 - 8, pickI y 16 - 8) w1 HR1 (by omega) hc'
      have hset : putL (pickI x 16 - 8, pickI y 16 - 8) (setL (rawTo raw k)) = setL (rawTo raw (k + 1)) := by
        rw [rawTo_succ hlt, setL_snoc, ← HXY.out]
        rfl
      rw [hset] at hp
      clear hset HR1
      go_wp2_with (go_at_call 24; refine hp.mono ?_; rintro e w2 ⟨v2, rfl, hown2, hb2⟩)
      go_roundw
      case measure => simp [intOf]; omega
      case rel =>
        refine ⟨k + 1, by omega, by omega, by go_num, ?_, Qt.more (Qt.more hb hb.size hb1) (Nat.le_trans hb.size hb1.size) hb2⟩
        exact hown2.mono (Nat.zero_le _)
    · have hset : rawTo raw k = rawTo raw 60 := by
        unfold rawTo
        by_cases h : k < raw.length
        · rw [show k = 60 by omega]
        · rw [List.take_of_length_le (by omega), List.take_of_length_le (by omega)]
      have HSET := Lib.hid hset
      clear hset
      by_cases h1 : k < raw.length
      · have h1z : (k : Int) < (raw.length : Int) := by omega
        have h2z : ¬ (k : Int) < 60 := by omega
        go_wp2
        go_ret
        have := HO.out
        rw [HSET.out] at this
        exact ⟨_, rfl, this, hb⟩
      · have h1z : ¬ (k : Int) < (raw.length : Int) := by omega
        go_wp2
        go_ret
        have := HO.out
        rw [HSET.out] at this
        exact ⟨_, rfl, this, hb⟩

theorem set_any (A : Option Addr) (raw : List (Int × Int)) (c : Nat) (w : World) (hR : Rd w w.heap.size A raw) (hl : raw.length ≤ 9223372036854775807) (hc : raw.length ≤ c) (hw : ∀ p ∈ raw, I64 p.1 ∧ I64 p.2) :
    Calls Tryz.prog 7 #[.slice A raw.length c] w fun e w' => ∃ v, e = .returned v ∧ Reads w' v (rawSet raw) ∧ Below w.heap.size w w' :=
  (set_own A raw c w hR hl hc hw).mono fun e w' ⟨v, he, ho, hb⟩ => by
    obtain ⟨A2, c2, h1, h2, h3⟩ := ho.rd
    exact ⟨v, he, ⟨A2, c2, h1, h2, h3⟩, hb⟩

end Go.Proofs.YtmmaeikeafemaaaGreat.Cel
namespace Go.Proofs.YtmmaeikeafemaaaGreat.Cel
open Go.RowKit Go.Sort

theorem eq_of_all {l m : List (Int × Int)} (hlen : l.length = m.length) (h : ∀ j, j < l.length → l.getD j (0, 0) = m.getD j (0, 0)) : l = m := by
  refine List.ext_getElem hlen fun j h1 h2 => ?_
  have := h j h1
  rwa [List.getD_eq_getElem?_getD, List.getD_eq_getElem?_getD, List.getElem?_eq_getElem h1, List.getElem?_eq_getElem h2] at this

theorem same_len (A A' : Option Addr) (n m c c' : Nat) (w : World) (hne : n ≠ m) :
    Calls Tryz.prog 17 #[.slice A n c, .slice A' m c'] w fun e w' => e = .returned (.bool false) ∧ Below w.heap.size w w' := by
  have hz : ((n : Int) == (m : Int)) = false := beq_eq_false_iff_ne.2 (by omega)
  have hz2 : ((n : Int) != (m : Int)) = true := by rw [bne, hz]; rfl
  go_enter Tryz.func17, Tryz.ntmps17
  go_wp2
  go_ret
  exact ⟨rfl, Below.refl _ _⟩

theorem same_any (A A' : Option Addr) (l m : List (Int × Int)) (c c' : Nat) (w : World) (hR : Rd w w.heap.size A l) (hR' : Rd w w.heap.size A' m) (hl : l.length ≤ 1000000) (hlm : l.length = m.length) :
    Calls Tryz.prog 17 #[.slice A l.length c, .slice A' l.length c'] w fun e w' => e = .returned (.bool (decide (l = m))) ∧ Below w.heap.size w w' := by
  generalize hr : decide (l = m) = r
  have HR := Lib.hid hr
  have HLM := Lib.hid hlm
  clear hr hlm
  go_enter Tryz.func17, Tryz.ntmps17
  go_wp2
  go_loopw [5] (fun i wr => ∃ k : Nat, k ≤ l.length ∧ i = .int .i64 k ∧ Hid (∀ j, j < k → l.getD j (0, 0) = m.getD j (0, 0)) ∧ Below w.heap.size w wr) (fun i _ => l.length - (intOf i).toNat)
  case atStart => exact ⟨0, Nat.zero_le _, rfl, (show Hid _ from fun j hj => absurd hj (Nat.not_lt_zero j)), Below.refl _ _⟩
  case round =>
    obtain ⟨k, hk, rfl, HK, hb⟩ := hrel
    by_cases hlt : k < l.length
    · have hltz : (k : Int) < (l.length : Int) := by omega
      obtain ⟨b, off, rfl, hbB, hcell⟩ := hR.at_ (by omega)
      obtain ⟨b2, off2, rfl, hbB2, hcell2⟩ := hR'.at_ (by have := HLM.out; omega)
      obtain ⟨⟨x, y⟩, hxy⟩ : ∃ p, p = l.getD k (0, 0) := ⟨_, rfl⟩
      obtain ⟨⟨cx, cy⟩, hcxy⟩ : ∃ p, p = m.getD k (0, 0) := ⟨_, rfl⟩
      obtain ⟨a0, a1⟩ := hcell k hlt
      obtain ⟨e0, e1⟩ := hcell2 k (by have := HLM.out; omega)
      rw [← hxy] at a0 a1
      rw [← hcxy] at e0 e1
      simp only at a0 a1 e0 e1
      have k0 := Qt.cell_in (Qt.keep hb a0)
      have k1 := Qt.cell_in (Qt.keep hb a1)
      have k2 := Qt.cell_in (Qt.keep hb e0)
      have k3 := Qt.cell_in (Qt.keep hb e1)
      have HXY := Lib.hid hxy
      have HCXY := Lib.hid hcxy
      clear hxy hcxy hcell hcell2 a0 a1 e0 e1
      have hcase : (x = cx ∧ y = cy) ∨ (x = cx ∧ ¬ y = cy) ∨ ¬ x = cx := by
        by_cases h1 : x = cx <;> by_cases h2 : y = cy <;> simp [h1, h2]
      rcases hcase with ⟨rfl, rfl⟩ | ⟨rfl, hy⟩ | hx
      · go_wp2
        refine Qt.below_all (by kernel_rfl) (by kernel_rfl) ?_
        repeat (go_big_quiet_step (fail))
        refine wpQuiet_nil ?_
        intro w1 hb1
        clear k0 k1 k2 k3
        go_wp2
        go_roundw
        case measure => simp [intOf]; omega
        case rel =>
          refine ⟨k + 1, by omega, by go_num, (show Hid _ from fun j hj => ?_), Qt.more hb hb.size hb1⟩
          by_cases hjk : j = k
          · subst hjk; rw [← HXY.out, ← HCXY.out]
          · exact HK.out j (by omega)
      all_goals
        have hne : l ≠ m := by
          intro e
          subst e
          have := HXY.out.trans HCXY.out.symm
          simp at this
          omega
        have HNE := Lib.hid hne
        clear hne
        go_wp2
        refine Qt.below_all (by kernel_rfl) (by kernel_rfl) ?_
        repeat (go_big_quiet_step (fail))
        refine wpQuiet_nil ?_
        intro w1 hb1
        clear k0 k1 k2 k3
        go_wp2
        go_ret
        exact ⟨by rw [← HR.out, decide_eq_false HNE.out]; rfl, Qt.more hb hb.size hb1⟩
    · have hltz : ¬ (k : Int) < (l.length : Int) := by omega
      have he : l = m := eq_of_all HLM.out fun j hj => HK.out j (by omega)
      have HE := Lib.hid he
      clear he
      go_wp2
      go_ret
      exact ⟨by rw [← HR.out, decide_eq_true HE.out]; rfl, hb⟩

/-- .. of slices that read as lists, whatever their places. -/
theorem same_holds {A A' : Option Addr} {l m : List (Int × Int)} {c c' : Nat} {w : World} (hR : Rd w w.heap.size A l) (hR' : Rd w w.heap.size A' m) (hl : l.length ≤ 1000000) :
    Calls Tryz.prog 17 #[.slice A l.length c, .slice A' m.length c'] w fun e w' => e = .returned (.bool (decide (l = m))) ∧ Below w.heap.size w w' := by
  by_cases h : l.length = m.length
  · have := same_any A A' l m c c' w hR hR' hl h
    rwa [← h]
  · rw [decide_eq_false fun e => h (congrArg List.length e)]
    exact same_len A A' _ _ c c' w h

end Go.Proofs.YtmmaeikeafemaaaGreat.Cel
namespace Go.Proofs.YtmmaeikeafemaaaGreat
set_option maxRecDepth 100000
set_option linter.unusedVariables false
set_option linter.unusedSimpArgs false
open Go.RowKit Go.Sort

theorem pick7_any (c n : Int) (w : World) (h1 : -9223372036854775808 ≤ c) (h2 : c ≤ 9223372036854775807) (hn : 1 ≤ n) (hn2 : n ≤ 9223372036854775807) :
    Calls Tryz.prog 6 #[.int .i64 c, .int .i64 n] w fun e w' => e = .returned (.int .i64 (pickI c n)) ∧ w = w' := by
  generalize hr : pickI c n = r
  have HR := Lib.hid hr
  clear hr
  go_enter Tryz.func6, Tryz.ntmps6
  go_wp2
  all_goals go_ret
  all_goals refine ⟨?_, rfl⟩
  all_goals (refine Qt.ret_int ?_; rw [← HR.out]; unfold pickI)
  · rw [if_pos (by assumption), ← Int.neg_tmod, Int.tmod_eq_emod_of_nonneg (by omega)]
  · rw [if_neg (by omega)]
theorem lev_bd {l : List Nd} {room : Int} (h : Right6 l room) : ∀ i, i < l.length → -9223372036854775808 ≤ (l.getD i deadN).1 ∧ (l.getD i deadN).1 ≤ 9223372036854775807 := fun i hi => by
  by_cases h2 : 2 ≤ i
  · have hf := fits_iff.1 (h.fits i h2 hi)
    have h3 := hf.lo
    have h4 := hf.hi
    omega
  · have := (level_zero h hi).2 (by omega)
    omega
theorem raw_set (raw : List (Int × Int)) : Cel.rightB (Cel.rawSet raw) = true ∧ (Cel.rawSet raw).length ≤ 60 ∧ ∀ e, 3 ≤ e → ∀ s ∈ Cel.rawSet raw, insideB e s = true := by
  have hm : ∀ s ∈ Cel.rawSet raw, -8 ≤ s.1 ∧ s.1 ≤ 7 ∧ -8 ≤ s.2 ∧ s.2 ≤ 7 := fun s hs => Cel.rawTo_bd ((Cel.mem_setL _ _).1 hs)
  have hl : (Cel.rawSet raw).length ≤ 60 := Nat.le_trans (Cel.length_setL _) (Cel.length_rawTo raw 60)
  refine ⟨(Cel.rightB_iff _).2 ⟨by omega, fun s hs => ?_, Cel.rises_setL _⟩, hl, fun e he s hs => ?_⟩
  · have := hm s hs
    unfold Cel.inB
    exact decide_eq_true (by omega)
  · have := hm s hs
    have hp : (8 : Int) ≤ 2 ^ e := by
      obtain ⟨d, rfl⟩ : ∃ d, e = 3 + d := ⟨e - 3, by omega⟩
      rw [Int.pow_add]
      have := pow_pos7 d
      generalize (2 : Int) ^ d = P at *
      show 8 ≤ 8 * P
      omega
    unfold insideB
    exact decide_eq_true (by omega)
end Go.Proofs.YtmmaeikeafemaaaGreat
