/-
  Texts that the claims of this seat share, part 9.
-/
import Derived.Test.YtcmdhochofoohaaB08
import Derived.Deep.RegionWith
import Derived.Test.YtcmdhochofoohaaB03
import Derived.Test.YtcmdhochofoohaaB01
import Derived.ProofKit
import Derived.OpenShut
import Derived.ChangeOld
import Derived.Deep.Slices
import Derived.Deep.Fields
import Derived.Deep.Strs
import Derived.Test.YtcmdhochofoohaaRows
set_option linter.unusedVariables false
set_option linter.unusedSimpArgs false
namespace Go.Proofs.Ytcmdhochofoohaa
set_option linter.unusedVariables false
set_option linter.unusedSimpArgs false
open Go.RowKit Go.Sort

def rd5 (r : Raw5) : Nat → Int
  | 0 => r.1
  | 1 => r.2.1
  | 2 => r.2.2.1
  | 3 => r.2.2.2.1
  | _ => r.2.2.2.2
def rawV (r : Raw5) : Value := .agg #[.int .i64 r.1, .int .i64 r.2.1, .int .i64 r.2.2.1, .int .i64 r.2.2.2.1, .int .i64 r.2.2.2.2]
def Fine5 (r : Raw5) : Prop := I64 r.1 ∧ I64 r.2.1 ∧ I64 r.2.2.1 ∧ I64 r.2.2.2.1 ∧ I64 r.2.2.2.2
theorem Fine5.at_ {r : Raw5} (h : Fine5 r) : ∀ i, I64 (rd5 r i) := by
  intro i
  match i with
  | 0 => exact h.1
  | 1 => exact h.2.1
  | 2 => exact h.2.2.1
  | 3 => exact h.2.2.2.1
  | n + 4 => exact h.2.2.2.2
theorem pick6_I (c n : Int) : pick6 c n = pickI c n := rfl
/-- so many of the four -/
def kdTo (K : Kd) (n : Nat) : Kd := (if 0 < n then K.1 else 0, if 1 < n then K.2.1 else 0, if 2 < n then K.2.2.1 else 0, if 3 < n then K.2.2.2 else 0)
theorem kdTo_4 (K : Kd) : kdTo K 4 = K := rfl
theorem kids6_kd (l : List Nd) (r : Raw5) : ∀ i, i < 4 → kd (kids6 l r) i = pickOf (sameTo l (levOf l r) l.length) (rd5 r i) := by
  intro i hi
  match i, hi with
  | 0, _ => rfl
  | 1, _ => rfl
  | 2, _ => rfl
  | 3, _ => rfl
theorem kdTo_set {w : World} {g T : Nat} {K : Kd} {k : Nat} (hk : k < 4) (h : w.heap[g]? = some (.cells #[.int .i64 (kdTo K k).1, .int .i64 (kdTo K k).2.1, .int .i64 (kdTo K k).2.2.1, .int .i64 (kdTo K k).2.2.2] T (0, 0))) :
    (w.setCell ⟨g, k, none⟩ (.int .i64 (kd K k))).heap[g]? = some (.cells #[.int .i64 (kdTo K (k + 1)).1, .int .i64 (kdTo K (k + 1)).2.1, .int .i64 (kdTo K (k + 1)).2.2.1, .int .i64 (kdTo K (k + 1)).2.2.2] T (0, 0)) := by
  match k, hk with
  | 0, _ => simp [World.setCell, Array.getElem?_modify, h, kdTo, kd]
  | 1, _ => simp [World.setCell, Array.getElem?_modify, h, kdTo, kd]
  | 2, _ => simp [World.setCell, Array.getElem?_modify, h, kdTo, kd]
  | 3, _ => simp [World.setCell, Array.getElem?_modify, h, kdTo, kd]
theorem kdTo_cell {w : World} {g T : Nat} {K : Kd} {k j : Nat} (hj : j < 4) (h : w.heap[g]? = some (.cells #[.int .i64 (kdTo K k).1, .int .i64 (kdTo K k).2.1, .int .i64 (kdTo K k).2.2.1, .int .i64 (kdTo K k).2.2.2] T (0, 0))) :
    w.cell? ⟨g, j, none⟩ = some (.int .i64 (kd (kdTo K k) j)) := by
  rw [Lib.cell_of_heap h]
  match j, hj with
  | 0, _ => rfl
  | 1, _ => rfl
  | 2, _ => rfl
  | 3, _ => rfl
/-- What is known within Kids. -/
structure KidHead (w wr : World) (A : Option Addr) (n c : Nat) (room : Int) (r : Raw5) : Prop where
  store : wr.heap[w.heap.size]? = some (.cells #[.slice A n c, .int .i64 room] 25 (0, 0))
  raw : wr.heap[w.heap.size + 1]? = some (.cells #[.int .i64 r.1, .int .i64 r.2.1, .int .i64 r.2.2.1, .int .i64 r.2.2.2.1, .int .i64 r.2.2.2.2] 27 (0, 0))
  res : wr.heap[w.heap.size + 2]? = some (.cells #[.int .i64 0, .int .i64 0, .int .i64 0, .int .i64 0] 26 (0, 0))
  bel : Below w.heap.size w wr
section
variable {w wr w' : World} {A : Option Addr} {n c : Nat} {room : Int} {r : Raw5}
theorem KidHead.size (h : KidHead w wr A n c room r) : w.heap.size + 3 ≤ wr.heap.size := lt_heap6 h.res
theorem KidHead.below (h : KidHead w wr A n c room r) (hb : Below (w.heap.size + 3) wr w') : KidHead w w' A n c room r :=
  ⟨(hb.block _ (by omega)).trans h.store, (hb.block _ (by omega)).trans h.raw, (hb.block _ (by omega)).trans h.res, h.bel.trans (hb.mono (by omega))⟩
theorem KidHead.s0 (h : KidHead w wr A n c room r) : wr.cell? ⟨w.heap.size, 0, none⟩ = some (.slice A n c) := by rw [Lib.cell_of_heap h.store]; rfl
theorem KidHead.r_ (h : KidHead w wr A n c room r) {i : Nat} (hi : i < 5) : wr.cell? ⟨w.heap.size + 1, i, none⟩ = some (.int .i64 (rd5 r i)) := by
  rw [Lib.cell_of_heap h.raw]
  match i, hi with
  | 0, _ => rfl
  | 1, _ => rfl
  | 2, _ => rfl
  | 3, _ => rfl
  | 4, _ => rfl
end
theorem kidHead_0 (w : World) (A : Option Addr) (n c : Nat) (room : Int) (r : Raw5) : KidHead w (((w.alloc (.cells #[.slice A n c, .int .i64 room] 25)).alloc (.cells #[.int .i64 r.1, .int .i64 r.2.1, .int .i64 r.2.2.1, .int .i64 r.2.2.2.1, .int .i64 r.2.2.2.2] 27)).alloc (.cells #[.int .i64 0, .int .i64 0, .int .i64 0, .int .i64 0] 26)) A n c room r := by
  have h1 := storeAt_0 w A n c room
  have hs := lt_heap6 h1.store
  have hsz : (w.alloc (.cells #[.slice A n c, .int .i64 room] 25)).heap.size = w.heap.size + 1 := by simp
  have hsz2 : ((w.alloc (.cells #[.slice A n c, .int .i64 room] 25)).alloc (.cells #[.int .i64 r.1, .int .i64 r.2.1, .int .i64 r.2.2.1, .int .i64 r.2.2.2.1, .int .i64 r.2.2.2.2] 27)).heap.size = w.heap.size + 2 := by simp
  refine ⟨(Lib.alloc_old _ _ _ (by omega)).trans ((Lib.alloc_old _ _ _ (by omega)).trans h1.store), (Lib.alloc_old _ _ _ (by omega)).trans ?_, ?_, (h1.bel.alloc (by omega) _).alloc (by omega) _⟩
  · rw [← hsz]
    exact heap_alloc_new _ _
  · rw [← hsz2]
    exact heap_alloc_new _ _

/-- what was told -/
theorem kid_told {w wr : World} {K : Kd} (h : wr.heap[w.heap.size + 2]? = some (.cells #[.int .i64 0, .int .i64 0, .int .i64 0, .int .i64 0] 26 (0, 0))) (hb : Below w.heap.size w wr) :
    ((((wr.setCell ⟨w.heap.size + 1 + 1, 0, none⟩ (.int .i64 K.1)).setCell ⟨w.heap.size + 1 + 1, 1, none⟩ (.int .i64 K.2.1)).setCell ⟨w.heap.size + 1 + 1, 2, none⟩ (.int .i64 K.2.2.1)).setCell ⟨w.heap.size + 1 + 1, 3, none⟩ (.int .i64 K.2.2.2)).heap[w.heap.size + 1 + 1]? = some (.cells #[.int .i64 K.1, .int .i64 K.2.1, .int .i64 K.2.2.1, .int .i64 K.2.2.2] 26 (0, 0)) ∧
    Below w.heap.size w ((((wr.setCell ⟨w.heap.size + 1 + 1, 0, none⟩ (.int .i64 K.1)).setCell ⟨w.heap.size + 1 + 1, 1, none⟩ (.int .i64 K.2.1)).setCell ⟨w.heap.size + 1 + 1, 2, none⟩ (.int .i64 K.2.2.1)).setCell ⟨w.heap.size + 1 + 1, 3, none⟩ (.int .i64 K.2.2.2)) := by
  refine ⟨by simp [World.setCell, Array.getElem?_modify, h], ?_⟩
  exact (((hb.setCell (by show _ ≤ _ + 1 + 1; omega) _).setCell (by show _ ≤ _ + 1 + 1; omega) _).setCell (by show _ ≤ _ + 1 + 1; omega) _).setCell (by show _ ≤ _ + 1 + 1; omega) _

set_option maxHeartbeats 4000000 in
set_option maxRecDepth 100000 in
theorem kids6_any (A : Option Addr) (l : List Nd) (c : Nat) (room : Int) (r : Raw5) (w : World) (hR : RdN w w.heap.size A l) (hl : l.length ≤ 100000) (hr : Fine5 r) :
    Calls Try.prog 18 #[storeV A l.length c room, rawV r] w fun e w' => e = .returned (kidsV (kids6 l r)) ∧ Below w.heap.size w w' := by
  have HH0 := Lib.hid (kidHead_0 w A l.length c room r)
  have s0 := HH0.out.s0
  have k4 := HH0.out.r_ (i := 4) (by decide)
  simp only [rd5] at k4
  obtain ⟨lev, hlev⟩ : ∃ lev, lev = levOf l r := ⟨_, rfl⟩
  have hkk := kids6_kd l r
  rw [← hlev] at hkk
  obtain ⟨K, hK⟩ : ∃ K, K = kids6 l r := ⟨_, rfl⟩
  rw [← hK] at hkk ⊢
  have HKK := Lib.hid hkk
  have HK := Lib.hid hK
  unfold storeV rawV
  clear hkk hK
  by_cases h0 : 0 < l.length
  · have h0z : (l.length : Int) > 0 := by omega
    obtain ⟨m, hm⟩ : ∃ m, m = (pickI r.2.2.2.2 l.length).toNat := ⟨_, rfl⟩
    have hmb := pickI_bd r.2.2.2.2 l.length (by omega)
    have hml : m < l.length := by omega
    have hpick := fun W => pick_nat r.2.2.2.2 l.length W hr.2.2.2.2 (by omega) (by omega)
    rw [← hm] at hpick
    have hlv : (l.getD m deadN).1 = lev := by
      rw [hlev]
      unfold levOf
      rw [if_pos h0, hm]
      rfl
    have hSpos : 0 < (sameTo l lev l.length).length := List.length_pos_of_mem (sameTo_mem hml hlv)
    obtain ⟨b0, off, rfl, hbB, hcell⟩ := hR.at_ h0
    obtain ⟨m0, _, _, _, _, _⟩ := hcell m hml
    rw [hlv] at m0
    have m0 := Qt.keep HH0.out.bel m0
    have hd0 : decide ((m : Int) < 0) = false := decide_eq_false (by omega)
    have hd1 : decide (l.length ≤ m) = false := decide_eq_false (by omega)
    have hmlz : (m : Int) < (l.length : Int) := by omega
    clear hm hmb hlv hlev hcell
    go_enter Try.func18, Try.ntmps18
    go_wp2_with fail
    generalize ((w.alloc (.cells #[.slice (some ⟨b0, off, none⟩) l.length c, .int .i64 room] 25)).alloc (.cells #[.int .i64 r.1, .int .i64 r.2.1, .int .i64 r.2.2.1, .int .i64 r.2.2.2.1, .int .i64 r.2.2.2.2] 27)).alloc (.cells #[.int .i64 0, .int .i64 0, .int .i64 0, .int .i64 0] 26) = w0 at *
    have q0 := Qt.cell_in s0
    have q1 := Qt.cell_in k4
    have q2 := Qt.cell_in m0
    refine Qt.below_all (by kernel_rfl) (by kernel_rfl) ?_
    repeat (go_big_quiet_step (first | (go_at_call 21; exact Qt.at_same fun _ _ => hpick _)))
    refine wpQuiet_nil ?_
    intro w1 hb1
    have H1 := HH0.out.below (hb1.mono HH0.out.size)
    clear q0 q1 q2 s0 k4 m0 hd0 hd1 hpick hb1
    have HR := Lib.hid hR
    have HF := Lib.hid hr
    clear hr
    have hlen0 := h0
    clear h0 h0z hml hmlz m0
    go_wp2_with fail
    go_loopw [5, 7] (fun v i wr => ∃ j : Nat, j ≤ l.length ∧ i = .int .i64 j ∧ Hid (KidHead w wr (some ⟨b0, off, none⟩) l.length c room r ∧ Own wr (w.heap.size + 3) v (sameTo l lev j))) (fun _ i _ => l.length - (intOf i).toNat)
    case atStart => exact ⟨0, Nat.zero_le _, rfl, H1, World.ownsRow_nil _ _ _ _⟩
    case round =>
      obtain ⟨j, hj, rfl, HH⟩ := hrel
      have H := HH.out.1
      have s0 := H.s0
      by_cases hlt : j < l.length
      · have hltz : (j : Int) < (l.length : Int) := by omega
        obtain ⟨b1, off1, he, hbB1, hcell⟩ := HR.out.at_ hlen0
        obtain ⟨rfl, rfl⟩ : b0 = b1 ∧ off = off1 := by injection he with he; injection he with h1 h2; exact ⟨h1, h2⟩
        obtain ⟨n0, _, _, _, _, _⟩ := hcell j hlt
        have n0 := Qt.keep H.bel n0
        have hsucc := sameTo_succ l lev j
        have hsl := sameTo_len l lev j
        clear hcell he
        generalize (l.getD j deadN).1 = x at *
        by_cases hx : x = lev
        · subst hx
          rw [if_pos rfl] at hsucc
          obtain ⟨v', w', hrun, hown, hb2⟩ := push_any (j : Int) H.size HH.out.2 (by omega)
          have HS := Lib.hid hsucc
          have HN : Hid (KidHead w w' (some ⟨b0, off, none⟩) l.length c room r ∧ Own w' (w.heap.size + 3) v' (sameTo l x (j + 1))) := ⟨H.below hb2, by rw [hsucc]; exact hown⟩
          have HRUN := Lib.hid hrun
          clear hsucc hown hrun hsl hb2
          go_wp2_with (at_builtin; refine Lib.wpList_append_run _ rfl (.tmp 40) (.tmp 42) 28 28 rfl _ _ rfl rfl _ _ HRUN.out ?_)
          go_roundw
          case measure => simp [intOf]; omega
          case rel => exact ⟨j + 1, by omega, by go_num, HN.out⟩
        · rw [if_neg hx] at hsucc
          have hown := HH.out.2
          rw [← hsucc] at hown
          have HN := Lib.hid (And.intro H hown)
          clear hsucc hsl HH H hown
          go_wp2
          go_roundw
          case measure => simp [intOf]; omega
          case rel => exact ⟨j + 1, by omega, by go_num, HN.out⟩
      · obtain rfl : j = l.length := by omega
        have hltz : ¬ (l.length : Int) < (l.length : Int) := by omega
        obtain ⟨A2, c2, rfl, hc2, hN⟩ := HH.out.2.reads
        have hsl := sameTo_len l lev l.length
        generalize sameTo l lev l.length = S at *
        have hgs := H.size
        have hrow := heap_alloc_new wr (.cells #[.int .i64 0, .int .i64 0, .int .i64 0, .int .i64 0] 26 (0, 0))
        have hba : Below wr.heap.size wr (wr.alloc (.cells #[.int .i64 0, .int .i64 0, .int .i64 0, .int .i64 0] 26)) := (Below.refl _ _).alloc (Nat.le_refl _) _
        have h20 := Lib.hid (And.intro (H.below (hba.mono hgs)) (And.intro (show (wr.alloc (.cells #[.int .i64 0, .int .i64 0, .int .i64 0, .int .i64 0] 26)).heap[wr.heap.size]? = some (.cells #[.int .i64 (kdTo K 0).1, .int .i64 (kdTo K 0).2.1, .int .i64 (kdTo K 0).2.2.1, .int .i64 (kdTo K 0).2.2.2] 26 (0, 0)) from hrow) (Rd.below hN hba (Nat.le_refl _))))
        have hSz : (S.length : Int) > 0 := by omega
        clear hrow hba hN HH H
        go_wp2_with fail
        generalize wr.alloc (.cells #[.int .i64 0, .int .i64 0, .int .i64 0, .int .i64 0] 26) = wx at *
        generalize wr.heap.size = g at *
        clear s0
        go_loopw [9] (fun i wq => ∃ k : Nat, k ≤ 4 ∧ i = .int .i64 k ∧ Hid (KidHead w wq (some ⟨b0, off, none⟩) l.length c room r ∧ wq.heap[g]? = some (.cells #[.int .i64 (kdTo K k).1, .int .i64 (kdTo K k).2.1, .int .i64 (kdTo K k).2.2.1, .int .i64 (kdTo K k).2.2.2] 26 (0, 0)) ∧ Rd wq g A2 S)) (fun i _ => 4 - (intOf i).toNat)
        case atStart => exact ⟨0, by omega, rfl, h20⟩
        case round =>
          obtain ⟨k, hk, rfl, HH⟩ := hrel
          obtain ⟨H, hrow, hRd⟩ := HH.out
          by_cases hlt : k < 4
          · have hltz : (k : Int) < 4 := by omega
            obtain ⟨q, hq⟩ : ∃ q, q = (pickI (rd5 r k) S.length).toNat := ⟨_, rfl⟩
            have hqb := pickI_bd (rd5 r k) S.length (by omega)
            have hql : q < S.length := by omega
            have hpick := fun W => pick_nat (rd5 r k) S.length W (HF.out.at_ k) (by omega) (by omega)
            rw [← hq] at hpick
            have hkd : kd K k = S.getD q 0 := by
              rw [HKK.out k hlt]
              unfold pickOf
              rw [if_pos hSpos, hq]
              rfl
            obtain ⟨b1, off1, rfl, hb1g, hcell⟩ := hRd.at_ hSpos
            have hc := hcell q hql
            rw [← hkd] at hc
            have r_ := H.r_ (i := k) (by omega)
            have hqz : (q : Int) < (S.length : Int) := by omega
            have hkz : (k : Int) < 5 := by omega
            have gc := kdTo_cell hlt hrow
            have gf := Lib.frozen_of_heap hrow k
            have hbs : Below g wr (wr.setCell ⟨g, k, none⟩ (.int .i64 (kd K k))) := (Below.refl _ _).setCell (by show g ≤ g; omega) _
            have HN := Lib.hid (And.intro (H.below (hbs.mono hgs)) (And.intro (kdTo_set hlt hrow) (Rd.below hRd hbs (Nat.le_refl _))))
            clear hq hqb hcell hrow hRd HH H hbs h20 hkd
            generalize rd5 r k = x at *
            generalize kd K k = y at *
            generalize kd (kdTo K k) k = z at *
            go_wp2_with fail
            refine (hpick _).mono ?_
            rintro e w' ⟨rfl, rfl⟩
            clear hpick
            go_wp2
            go_roundw
            case measure => simp [intOf]; omega
            case rel => exact ⟨k + 1, by omega, by go_num, HN⟩
          · obtain rfl : k = 4 := by omega
            have hltz : ¬ ((4 : Nat) : Int) < 4 := by decide
            have c0 := kdTo_cell (j := 0) (by decide) hrow
            have c1 := kdTo_cell (j := 1) (by decide) hrow
            have c2 := kdTo_cell (j := 2) (by decide) hrow
            have c3 := kdTo_cell (j := 3) (by decide) hrow
            rw [kdTo_4] at c0 c1 c2 c3
            simp only [kd] at c0 c1 c2 c3
            have hres := H.res
            have t0 : wr.cell? ⟨w.heap.size + 1 + 1, 0, none⟩ = some (.int .i64 0) := by rw [Lib.cell_of_heap hres]; rfl
            have t1 : wr.cell? ⟨w.heap.size + 1 + 1, 1, none⟩ = some (.int .i64 0) := by rw [Lib.cell_of_heap hres]; rfl
            have t2 : wr.cell? ⟨w.heap.size + 1 + 1, 2, none⟩ = some (.int .i64 0) := by rw [Lib.cell_of_heap hres]; rfl
            have t3 : wr.cell? ⟨w.heap.size + 1 + 1, 3, none⟩ = some (.int .i64 0) := by rw [Lib.cell_of_heap hres]; rfl
            have f0 : wr.frozen? ⟨w.heap.size + 1 + 1, 0, none⟩ = false := Lib.frozen_of_heap hres 0
            have f1 : wr.frozen? ⟨w.heap.size + 1 + 1, 1, none⟩ = false := Lib.frozen_of_heap hres 1
            have f2 : wr.frozen? ⟨w.heap.size + 1 + 1, 2, none⟩ = false := Lib.frozen_of_heap hres 2
            have f3 : wr.frozen? ⟨w.heap.size + 1 + 1, 3, none⟩ = false := Lib.frozen_of_heap hres 3
            have hbel := H.bel
            have HT := Lib.hid (kid_told (K := K) hres hbel)
            clear HH hRd H h20 hrow
            go_wp2
            refine bodyPost_ret (results_cell1 rfl _ _ (w.heap.size + 1 + 1) _ _ _ _ rfl HT.out.1 Try.underlying26 rfl (by kernel_rfl)) rfl ?_
            exact ⟨rfl, HT.out.2⟩
  · obtain rfl : l = [] := List.eq_nil_of_length_eq_zero (by omega)
    have hK0 : K = (0, 0, 0, 0) := HK.out
    subst hK0
    have h0z : ¬ (([] : List Nd).length : Int) > 0 := by decide
    have h0y : ¬ (0 : Int) < (([] : List Nd).length : Int) := by decide
    clear hlev HKK HK k4 h0z h0y h0 hr hR hl
    simp only [List.length_nil] at HH0 s0 ⊢
    go_enter Try.func18, Try.ntmps18
    go_wp2_with fail
    generalize ((w.alloc (.cells #[.slice A 0 c, .int .i64 room] 25)).alloc (.cells #[.int .i64 r.1, .int .i64 r.2.1, .int .i64 r.2.2.1, .int .i64 r.2.2.2.1, .int .i64 r.2.2.2.2] 27)).alloc (.cells #[.int .i64 0, .int .i64 0, .int .i64 0, .int .i64 0] 26) = w0 at *
    go_loopw [5, 7] (fun v i wr => v = .slice none 0 0 ∧ i = .int .i64 0 ∧ wr = w0) (fun _ i _ => 0)
    case atStart => exact ⟨rfl, rfl, rfl⟩
    case round =>
      obtain ⟨rfl, rfl, rfl⟩ := hrel
      have H := HH0.out
      have hgs := H.size
      have hrow := heap_alloc_new wr (.cells #[.int .i64 0, .int .i64 0, .int .i64 0, .int .i64 0] 26 (0, 0))
      have hba : Below wr.heap.size wr (wr.alloc (.cells #[.int .i64 0, .int .i64 0, .int .i64 0, .int .i64 0] 26)) := (Below.refl _ _).alloc (Nat.le_refl _) _
      have H2 := H.below (hba.mono hgs)
      clear H HH0 hba
      go_wp2_with fail
      generalize wr.alloc (.cells #[.int .i64 0, .int .i64 0, .int .i64 0, .int .i64 0] 26) = wx at *
      generalize wr.heap.size = g at *
      clear s0
      go_loopw [9] (fun i wq => i = .int .i64 0 ∧ wq = wx) (fun i _ => 0)
      case atStart => exact ⟨rfl, rfl⟩
      case round =>
        obtain ⟨rfl, rfl⟩ := hrel
        have c0 : wr.cell? ⟨g, 0, none⟩ = some (.int .i64 0) := by rw [Lib.cell_of_heap hrow]; rfl
        have c1 : wr.cell? ⟨g, 1, none⟩ = some (.int .i64 0) := by rw [Lib.cell_of_heap hrow]; rfl
        have c2 : wr.cell? ⟨g, 2, none⟩ = some (.int .i64 0) := by rw [Lib.cell_of_heap hrow]; rfl
        have c3 : wr.cell? ⟨g, 3, none⟩ = some (.int .i64 0) := by rw [Lib.cell_of_heap hrow]; rfl
        have hres := H2.res
        have t0 : wr.cell? ⟨w.heap.size + 1 + 1, 0, none⟩ = some (.int .i64 0) := by rw [Lib.cell_of_heap hres]; rfl
        have t1 : wr.cell? ⟨w.heap.size + 1 + 1, 1, none⟩ = some (.int .i64 0) := by rw [Lib.cell_of_heap hres]; rfl
        have t2 : wr.cell? ⟨w.heap.size + 1 + 1, 2, none⟩ = some (.int .i64 0) := by rw [Lib.cell_of_heap hres]; rfl
        have t3 : wr.cell? ⟨w.heap.size + 1 + 1, 3, none⟩ = some (.int .i64 0) := by rw [Lib.cell_of_heap hres]; rfl
        have f0 : wr.frozen? ⟨w.heap.size + 1 + 1, 0, none⟩ = false := Lib.frozen_of_heap hres 0
        have f1 : wr.frozen? ⟨w.heap.size + 1 + 1, 1, none⟩ = false := Lib.frozen_of_heap hres 1
        have f2 : wr.frozen? ⟨w.heap.size + 1 + 1, 2, none⟩ = false := Lib.frozen_of_heap hres 2
        have f3 : wr.frozen? ⟨w.heap.size + 1 + 1, 3, none⟩ = false := Lib.frozen_of_heap hres 3
        have HT := Lib.hid (kid_told (K := (0, 0, 0, 0)) hres H2.bel)
        clear H2 hrow
        go_wp2
        refine bodyPost_ret (results_cell1 rfl _ _ (w.heap.size + 1 + 1) _ _ _ _ rfl HT.out.1 Try.underlying26 rfl (by kernel_rfl)) rfl ?_
        exact ⟨rfl, HT.out.2⟩
end Go.Proofs.Ytcmdhochofoohaa
namespace Go.Proofs.Ytcmdhochofoohaa
set_option linter.unusedVariables false
set_option linter.unusedSimpArgs false
open Go.RowKit Go.Sort

def dead5 : Raw5 := (0, 0, 0, 0, 0)
/-- five numbers lie here -/
def R5At (w : World) (b o : Nat) (r : Raw5) : Prop := w.cell? ⟨b, o, none⟩ = some (.int .i64 r.1) ∧ w.cell? ⟨b, o + 1, none⟩ = some (.int .i64 r.2.1) ∧ w.cell? ⟨b, o + 2, none⟩ = some (.int .i64 r.2.2.1) ∧ w.cell? ⟨b, o + 3, none⟩ = some (.int .i64 r.2.2.2.1) ∧ w.cell? ⟨b, o + 4, none⟩ = some (.int .i64 r.2.2.2.2)
theorem R5At.below {w w' : World} {b o B : Nat} {r : Raw5} (h : R5At w b o r) (hb : Below B w w') (hx : b < B) : R5At w' b o r := by
  obtain ⟨h0, h1, h2, h3, h4⟩ := h
  exact ⟨(hb.cell (p := ⟨b, o, none⟩) hx).trans h0, (hb.cell (p := ⟨b, o + 1, none⟩) hx).trans h1, (hb.cell (p := ⟨b, o + 2, none⟩) hx).trans h2, (hb.cell (p := ⟨b, o + 3, none⟩) hx).trans h3, (hb.cell (p := ⟨b, o + 4, none⟩) hx).trans h4⟩
/-- The slice at A reads as raw numbers, five by five. -/
def RdR (w : World) (B : Nat) (A : Option Addr) (l : List Raw5) : Prop :=
  ∀ j, j < l.length → ∃ b off, A = some ⟨b, off, none⟩ ∧ b < B ∧ R5At w b (off + j * 5) (l.getD j dead5)
theorem RdR.below {w w' : World} {B B' : Nat} {A : Option Addr} {l : List Raw5} (h : RdR w B A l) (hb : Below B' w w') (hB : B ≤ B') : RdR w' B A l := fun j hj => by
  obtain ⟨b, off, e, hlt, h0⟩ := h j hj
  exact ⟨b, off, e, hlt, h0.below hb (Nat.lt_of_lt_of_le hlt hB)⟩
/-- What is known within Store's loop. -/
structure StAt (w wr : World) (g : Nat) (R : Int) (m : List Nd) (B : Option Addr) (d : Nat) : Prop where
  res : wr.heap[w.heap.size]? = some (.cells #[.slice none 0 0, .int .i64 0] 25 (0, 0))
  row : wr.heap[g]? = some (.cells #[.slice B m.length d, .int .i64 R] 25 (0, 0))
  rd : RdN wr wr.heap.size B m
  cap : m.length ≤ d
  bel : Below w.heap.size w wr
  lo : w.heap.size + 1 ≤ g
theorem storeTo_succ (room : Int) (raw : List Raw5) (n : Nat) : storeTo room raw (n + 1) = (intern6 (storeTo room raw n) room (kids6 (storeTo room raw n) (raw.getD n dead5))).1 := rfl
theorem StAt.below {w wr w' : World} {g : Nat} {R : Int} {m : List Nd} {B : Option Addr} {d : Nat} (h : StAt w wr g R m B d) (hb : Below wr.heap.size wr w') : StAt w w' g R m B d :=
  ⟨(hb.block _ (lt_heap6 h.res)).trans h.res, (hb.block _ (lt_heap6 h.row)).trans h.row, (h.rd.below hb (Nat.le_refl _)).more hb.size, h.cap, Qt.more h.bel h.bel.size hb, h.lo⟩
/-- another store is told in the box -/
theorem StAt.put {w wr : World} {g : Nat} {R : Int} {m l : List Nd} {B A : Option Addr} {d c : Nat} (h : StAt w wr g R m B d) (hR : RdN wr wr.heap.size A l) (hc : l.length ≤ c) :
    StAt w ((wr.setCell ⟨g, 0, none⟩ (.slice A l.length c)).setCell ⟨g, 1, none⟩ (.int .i64 R)) g R l A c := by
  have hlo := h.lo
  have hk : ∀ q, q < g → ((wr.setCell ⟨g, 0, none⟩ (.slice A l.length c)).setCell ⟨g, 1, none⟩ (.int .i64 R)).heap[q]? = wr.heap[q]? := fun q hq => by
    rw [Below.heap_setCell _ _ _ _ (by simp; omega), Below.heap_setCell _ _ _ _ (by simp; omega)]
  exact ⟨(hk _ (by omega)).trans h.res, set_row h.row, (rdN_told hR h.row).more (by simp [World.setCell]), hc, (h.bel.setCell (by show _ ≤ g; omega) _).setCell (by show _ ≤ g; omega) _, hlo⟩

set_option maxHeartbeats 4000000 in
set_option maxRecDepth 100000 in
theorem store6_any (A : Option Addr) (raw : List Raw5) (c : Nat) (room : Int) (w : World) (hR : RdR w w.heap.size A raw) (hl : raw.length ≤ 9223372036854775807) (hI : I64 room) (hF : ∀ j, j < raw.length → Fine5 (raw.getD j dead5)) :
    Calls Try.prog 15 #[.int .i64 room, .slice A raw.length c] w (StoreR (store6 room raw) (2 + pick6 room 60) w) := by
  have hp := pick_any room 60 w hI.1 hI.2 (by decide) (by decide)
  have hpb := pickI_bd room 60 (by decide)
  obtain ⟨R, hRR⟩ : ∃ R, R = 2 + pickI room 60 := ⟨_, rfl⟩
  have hR2 : 2 ≤ R ∧ R ≤ 100000 := by omega
  have hst : store6 room raw = storeTo R raw (min raw.length 40) := by rw [hRR]; rfl
  have hto := fun k (hk : k ≤ 40) => storeTo_right hR2.1 hR2.2 raw k hk
  have hnew := fun W => refNew6_any R W
  have e1 : newL R = new6 := by unfold newL; rw [if_pos hR2]
  have e2 : newRoom R = R := by unfold newRoom; rw [if_pos hR2]
  rw [e1, e2] at hnew
  rw [show (2 + pick6 room 60) = R from hRR.symm]
  obtain ⟨z, hz⟩ : ∃ z, z = store6 room raw := ⟨_, rfl⟩
  rw [← hz] at hst ⊢
  have HZ := Lib.hid hst
  have HT := Lib.hid hto
  have HR := Lib.hid hR
  have HFF := Lib.hid hF
  clear hz hst hto e1 e2 hR hF
  have hRa : 2 + pickI room 60 = R := hRR.symm
  clear hRR
  have hrow0 := Lib.hid (heap_alloc_new w (.cells #[.slice none 0 0, .int .i64 0] 25 (0, 0)))
  have hb0 : Hid (Below w.heap.size w (w.alloc (.cells #[.slice none 0 0, .int .i64 0] 25))) := (Below.refl _ _).alloc (Nat.le_refl _) _
  clear hp
  have hp := fun W => pick_any room 60 W hI.1 hI.2 (by decide) (by decide)
  go_enter Try.func15, Try.ntmps15
  go_wp2_with fail
  generalize w.alloc (.cells #[.slice none 0 0, .int .i64 0] 25) = w0 at *
  refine (hp _).mono ?_
  rintro e w' ⟨rfl, rfl⟩
  clear hp
  go_wp2_with fail
  refine (hnew _).mono ?_
  rintro e w1 ⟨v, rfl, ⟨B0, d0, rfl, hd0, hN⟩, hb1⟩
  have h00 : StAt w (w1.alloc (.cells #[.slice B0 new6.length d0, .int .i64 R] 25)) w1.heap.size R new6 B0 d0 := by
    have hba : Below w1.heap.size w1 (w1.alloc (.cells #[.slice B0 new6.length d0, .int .i64 R] 25)) := (Below.refl _ _).alloc (Nat.le_refl _) _
    have hs0 := lt_heap6 hrow0.out
    have hr1 := (hb1.block _ hs0).trans hrow0.out
    have hs1 := lt_heap6 hr1
    have hbw : Below w.heap.size w w1 := Qt.more hb0.out (by omega) hb1
    exact ⟨(hba.block _ hs1).trans hr1, heap_alloc_new w1 _, (RdN.below hN hba (Nat.le_refl _)).more hba.size, hd0, Qt.more hbw hbw.size hba, hs1⟩
  have H00 := Lib.hid (And.intro h00 (show new6 = storeTo R raw 0 from rfl))
  clear h00 hN hb1 hb0 hrow0 hnew hRa
  obtain ⟨m0, hm0⟩ : ∃ m0, m0 = new6 := ⟨_, rfl⟩
  rw [← hm0] at H00 hd0 ⊢
  clear hm0
  go_wp2_with fail
  generalize w1.alloc (.cells #[.slice B0 m0.length d0, .int .i64 R] 25) = wx at *
  generalize w1.heap.size = g at *
  go_loopw [6] (fun i wr => ∃ (k : Nat) (m : List Nd) (B : Option Addr) (d : Nat), k ≤ 40 ∧ k ≤ raw.length ∧ i = .int .i64 k ∧ Hid (StAt w wr g R m B d ∧ m = storeTo R raw k)) (fun i _ => 40 - (intOf i).toNat)
  case atStart => exact ⟨0, m0, B0, d0, by omega, Nat.zero_le _, rfl, H00⟩
  case round =>
    obtain ⟨k, m, B, d, hk40, hkl, rfl, HH⟩ := hrel
    have H := HH.out.1
    have hrow := H.row
    have c0 : wr.cell? ⟨g, 0, none⟩ = some (.slice B m.length d) := by rw [Lib.cell_of_heap hrow]; rfl
    have c1 : wr.cell? ⟨g, 1, none⟩ = some (.int .i64 R) := by rw [Lib.cell_of_heap hrow]; rfl
    by_cases hlt : k < raw.length ∧ k < 40
    · obtain ⟨hlt1, hlt2⟩ := hlt
      have hz1 : (k : Int) < (raw.length : Int) := by omega
      have hz2 : (k : Int) < 40 := by omega
      have hRaw := HR.out k hlt1
      obtain ⟨b, off, rfl, hbB, x0, x1, x2, x3, x4⟩ := hRaw
      have hfine := HFF.out k hlt1
      have hnext := storeTo_succ R raw k
      rw [← HH.out.2] at hnext
      have hm6 := HT.out k hk40
      rw [← HH.out.2] at hm6
      generalize raw.getD k dead5 = r at *
      have hkids := fun W (hb : Below wr.heap.size wr W) => kids6_any B m d R r W ((H.rd.below hb (Nat.le_refl _)).more hb.size) (by omega) hfine
      have hint := fun W (hb : Below wr.heap.size wr W) => refIntern6_any B m d R (kids6 m r) W ((H.rd.below hb (Nat.le_refl _)).more hb.size) (by omega) H.cap (fun i hi => by have := right_bd hm6.1 i hi; omega)
      unfold storeV rawV kidsV at hkids
      unfold storeV kidsV at hint
      generalize kids6 m r = K at *
      obtain ⟨p, hp⟩ : ∃ p, p = intern6 m R K := ⟨_, rfl⟩
      rw [← hp] at hint hnext
      have HNX := Lib.hid hnext
      have q0 := Qt.cell_in (Qt.keep H.bel x0)
      have q1 := Qt.cell_in (Qt.keep H.bel x1)
      have q2 := Qt.cell_in (Qt.keep H.bel x2)
      have q3 := Qt.cell_in (Qt.keep H.bel x3)
      have q4 := Qt.cell_in (Qt.keep H.bel x4)
      have q5 := Qt.cell_in c0
      have q6 := Qt.cell_in c1
      clear x0 x1 x2 x3 x4 hfine hm6 hp hnext HH c0 c1
      go_wp2
      refine Qt.region_call_tree 7 (.only 8 (.pure 9 (.pure 10 (.pure 11 (.only 12 .done))))) (by kernel_rfl) (by kernel_rfl) rfl rfl rfl Try.func20 (by kernel_rfl) (by kernel_rfl) rfl ?_
      simp only [List.take_succ_cons, List.take_zero, List.drop_succ_cons, List.drop_zero]
      repeat (go_big_quiet_step (first | (go_at_call 18; exact Qt.at_call' hkids)))
      refine wpQuiet_nil ?_
      intro w3 hb3
      have hp := hint w3 hb3
      simp only [List.map_toArray, List.map_cons, List.map_nil]
      show Calls Try.prog _ #[.agg #[.slice B m.length d, .int .i64 R], .agg #[.int .i64 K.1, .int .i64 K.2.1, .int .i64 K.2.2.1, .int .i64 K.2.2.2]] w3 _
      refine hp.mono ?_
      rintro e w4 ⟨v, rfl, ⟨A4, c4, rfl, hc4, hR4⟩, hb4⟩
      have H4 := (H.below hb3).below hb4
      have hrow4 := H4.row
      have g0 : w4.cell? ⟨g, 0, none⟩ = some (.slice B m.length d) := by rw [Lib.cell_of_heap hrow4]; rfl
      have g1 : w4.cell? ⟨g, 1, none⟩ = some (.int .i64 R) := by rw [Lib.cell_of_heap hrow4]; rfl
      have f0 := Lib.frozen_of_heap hrow4 0
      have f1 := Lib.frozen_of_heap hrow4 1
      have HN := Lib.hid (And.intro (H4.put hR4 hc4) HNX.out.symm)
      clear hp hint hkids q0 q1 q2 q3 q4 q5 q6 hrow hrow4 H4 H hb3 hb4 hR4
      refine ⟨_, rfl, ?_⟩
      simp only [Act.put, List.setIfInBounds_toArray, List.set_cons_succ, List.set_cons_zero]
      refine ⟨_, rfl, ?_⟩
      go_wp2_with fail
      refine ⟨rfl, ?_⟩
      refine ⟨_, some 30, .agg #[.slice A4 p.1.length c4, .int .i64 R], rfl, rfl, ⟨rfl, fun _ => by first | rfl | (simp only [execOp]; go_simp)⟩, ?_⟩
      simp only [Act.put, List.setIfInBounds_toArray, List.set_cons_succ, List.set_cons_zero]
      refine ⟨_, some 31, .int .i64 p.2.1, rfl, rfl, ⟨rfl, fun _ => by first | rfl | (simp only [execOp]; go_simp)⟩, ?_⟩
      simp only [Act.put, List.setIfInBounds_toArray, List.set_cons_succ, List.set_cons_zero]
      refine ⟨_, some 32, .int .i64 p.2.2, rfl, rfl, ⟨rfl, fun _ => by first | rfl | (simp only [execOp]; go_simp)⟩, ?_⟩
      simp only [Act.put, List.setIfInBounds_toArray, List.set_cons_succ, List.set_cons_zero]
      refine ⟨_, rfl, ?_⟩
      go_wp2_with fail
      refine ⟨rfl, ?_⟩
      simp only [Qt.treeW]
      go_wp2
      go_roundw
      case measure => simp [intOf]; omega
      case rel => exact ⟨k + 1, p.1, A4, c4, by omega, by omega, by go_num, HN⟩
    · have hkm : k = min raw.length 40 := by omega
      have hzm : z = m := by rw [HZ.out, ← hkm, HH.out.2]
      subst hzm
      have hres := H.res
      have t0 : wr.cell? ⟨w.heap.size, 0, none⟩ = some (.slice none 0 0) := by rw [Lib.cell_of_heap hres]; rfl
      have t1 : wr.cell? ⟨w.heap.size, 1, none⟩ = some (.int .i64 0) := by rw [Lib.cell_of_heap hres]; rfl
      have f0 := Lib.frozen_of_heap hres 0
      have f1 := Lib.frozen_of_heap hres 1
      have hfin : ((wr.setCell ⟨w.heap.size, 0, none⟩ (.slice B z.length d)).setCell ⟨w.heap.size, 1, none⟩ (.int .i64 R)).heap[w.heap.size]? = some (.cells #[.slice B z.length d, .int .i64 R] 25 (0, 0)) ∧ StoreR z R w (.returned (.agg #[.slice B z.length d, .int .i64 R])) ((wr.setCell ⟨w.heap.size, 0, none⟩ (.slice B z.length d)).setCell ⟨w.heap.size, 1, none⟩ (.int .i64 R)) := by
        refine ⟨set_row hres, _, rfl, ⟨B, d, rfl, H.cap, (rdN_told H.rd hres).more (by simp [World.setCell])⟩, ?_⟩
        exact (H.bel.setCell (Nat.le_refl _) _).setCell (Nat.le_refl _) _
      have HFI := Lib.hid hfin
      have hz1 : (¬ (k : Int) < (raw.length : Int)) ∨ ((k : Int) < (raw.length : Int) ∧ ¬ (k : Int) < 40) := by omega
      clear HH H hrow hres hfin HZ hkm hlt
      rcases hz1 with hz1 | ⟨hz1, hz2⟩
      · go_wp2
        exact bodyPost_ret (results_cell1 rfl _ _ w.heap.size _ _ _ _ rfl HFI.out.1 Try.underlying25 rfl (by kernel_rfl)) rfl HFI.out.2
      · go_wp2
        exact bodyPost_ret (results_cell1 rfl _ _ w.heap.size _ _ _ _ rfl HFI.out.1 Try.underlying25 rfl (by kernel_rfl)) rfl HFI.out.2
end Go.Proofs.Ytcmdhochofoohaa
namespace Go.Proofs.Ytcmdhochofoohaa.Qt
open Go Go.Sort Go.RowKit

inductive Scc where
  | done : Scc
  | calm : Nat → Scc → Scc
  | only : Nat → Scc → Scc
  | two : Nat → Nat → Scc → Scc → Scc
  | three : Nat → Nat → Nat → Scc → Scc → Scc → Scc
def Scc.len : Scc → Nat
  | .done => 0
  | .calm _ s => s.len + 1
  | .only _ s => s.len + 1
  | .two _ _ s _ => s.len + 1
  | .three _ _ _ s _ _ => s.len + 1

section
variable {P : Program} {ops : Array Oper} {md : Region.Mode} {C : World → Prop}

/-- In every world of the class it leaves the world as it is, and yields v. -/
def CalmV (P : Program) (ops : Array Oper) (C : World → Prop) (o : Oper) (v : Value) (a : Act) : Prop :=
  Region.wanted o (yielded ops a.tmps) = true ∧ ∀ W, C W → Oper.quietUpon P (fun w' => w' = W) W v ((execOp a.eval o).run P W)

theorem CalmV.op {i : Nat} {oi : Oper} {v : Value} {a : Act} (hi : ops[i]? = some oi) (hp : CalmV P ops C oi v a) {K : Act → World → Prop} {Q : Exit → Act → World → Prop} {w : World} (hw : C w) (h : K (a.put oi.dst v) w) : wpOp P ops Q i K a w := by
  unfold wpOp
  simp only [hi, hp.1, if_true]
  left
  refine Oper.wp_of_quiet (C := fun w' => w' = w) (K := fun a' => a' = a.put oi.dst v) rfl (fun a' w' hw' ha' => ?_) ⟨v, fun W hW => ?_, rfl⟩
  · subst hw' ha'
    exact h
  · subst hW
    exact hp.2 W hw

theorem wpOp_keep {j : Nat} {oi oj : Oper} {v : Value} (R : Act → Prop) (hj : ops[j]? = some oj) (hap : oi.apart ops oj = true) (hsi : ∀ cs b, oi.op ≠ .select cs b) (hsj : ∀ cs b, oj.op ≠ .select cs b) {K : Act → World → Prop} {Kf : Act → World → Prop} {a : Act} {w : World}
    (keep : ∀ (a : Act) u, R a → R (a.put oj.dst u)) (hd : ∀ (a : Act) ds, R a → R { a with defers := ds })
    (hp : R a) (h : wpOp P ops (Qn Kf) j K (a.put oi.dst v) w) : wpOp P ops (Qn Kf) j (fun a' w' => R a' ∧ K (a'.put oi.dst v) w') a w := by
  obtain ⟨h1, h2, h3⟩ := Oper.apart_spec hap
  unfold wpOp at *
  simp only [hj] at *
  rw [wanted_put oj a oi.dst v h1] at h
  split
  · rename_i hw
    simp only [hw, if_true] at h
    rcases h with h | h
    · left
      unfold Oper.wp at *
      rw [execOp_put oj hsj a oi.dst v h1] at h
      exact upon_put (R := R) (fun a u => Act.put_comm a v u h2) keep hd hp _ h
    · exact (no_letsOut h.2).elim
  · rename_i hw
    simp only [hw] at h
    exact ⟨keep _ _ hp, by rw [← Act.put_comm a v undef h2]; exact h⟩

/-- whatever order is picked; each world is one of the class -/
def wpAnyC (P : Program) (md : Region.Mode) (ops : Array Oper) (C : World → Prop) (Kf : Act → World → Prop) : Nat → Array Bool → Act → World → Prop
  | 0, listed, a, w => Region.ready md ops listed = [] ∧ Kf a w
  | f + 1, listed, a, w => Region.ready md ops listed ≠ [] ∧ ∀ i ∈ Region.ready md ops listed, wpOp P ops (Qn fun _ _ => False) i (fun a' w' => C w' ∧ wpAnyC P md ops C Kf f (listed.setIfInBounds i true) a' w') a w

theorem any_of_C {Kf : Act → World → Prop} (f : Nat) : ∀ listed a w, wpAnyC P md ops C Kf f listed a w → wpAny P md ops (Qn Kf) f listed a w := by
  induction f with
  | zero => intro listed a w h; exact ⟨h.1, rfl, h.2⟩
  | succ f ih => intro listed a w h; exact ⟨fun h0 => absurd h0 h.1, fun i hi => wpOp_qn (fun a' w' h' => ih _ a' w' h'.2) (h.2 i hi)⟩

theorem calm_first {Kf : Act → World → Prop} {i : Nat} {oi : Oper} {v : Value} (hi : ops[i]? = some oi) (hsel : ∀ (j : Nat) (o : Oper) cs b, ops[j]? = some o → o.op ≠ .select cs b) (f : Nat) :
    ∀ (listed : Array Bool) (a : Act) (w : World), C w →
      (∀ j oj, ops[j]? = some oj → j ≠ i → listed.getD j true = false → (∀ e ∈ oj.after, Region.binds md e = true → e.on ≠ i) → oi.apart ops oj = true) →
      i ∈ Region.ready md ops listed → CalmV P ops C oi v a →
      wpAnyC P md ops C Kf f (listed.setIfInBounds i true) (a.put oi.dst v) w → wpAnyC P md ops C Kf (f + 1) listed a w := by
  induction f with
  | zero =>
    intro listed a w hC _ hr hp H
    refine ⟨fun h => (by rw [h] at hr; cases hr), fun j hj => ?_⟩
    by_cases hji : j = i
    · subst hji; exact hp.op hi hC ⟨hC, H⟩
    · have := ready_mono hj hji
      rw [H.1] at this
      cases this
  | succ f ih =>
    intro listed a w hC hfree hr hp H
    refine ⟨fun h => (by rw [h] at hr; cases hr), fun j hj => ?_⟩
    by_cases hji : j = i
    · subst hji; exact hp.op hi hC ⟨hC, H⟩
    · obtain ⟨hjun, oj, hoj, hall⟩ := mem_ready.1 hj
      have hun := (mem_ready.1 hr).1
      have hnot : ∀ e ∈ oj.after, Region.binds md e = true → e.on ≠ i := fun e he hb heq => by
        have h1 := hall e he hb
        rw [heq, getD_both hun] at h1
        cases h1
      have hap := hfree j oj hoj hji hjun hnot
      obtain ⟨h1, h2, h3⟩ := Oper.apart_spec hap
      have keep : ∀ (a : Act) u, CalmV P ops C oi v a → CalmV P ops C oi v (a.put oj.dst u) := fun a u hp => by
        unfold CalmV at *
        rw [execOp_put oi (fun cs b => hsel i oi cs b hi) a oj.dst u h3, wanted_put oi a oj.dst u h3]
        exact hp
      refine wpOp_mono (fun a' w' h3 => ⟨h3.2.1, ih (listed.setIfInBounds j true) a' w' h3.2.1 (fun k ok hk hki hku hno => hfree k ok hk hki ?_ hno) (ready_mono hr (Ne.symm hji)) h3.1 ?_⟩)
        (wpOp_keep (CalmV P ops C oi v) hoj hap (fun cs b => hsel i oi cs b hi) (fun cs b => hsel j oj cs b hoj) keep (fun _ _ h => h) hp (H.2 j (ready_mono hj hji)))
      · by_cases hjk : j = k
        · subst hjk; exact hjun
        · rwa [getD_set_ne true hjk] at hku
      · rw [Array.setIfInBounds_comm _ _ hji]; exact h3.2.2

def treeCB (md : Region.Mode) (ops : Array Oper) : Scc → Array Bool → Bool
  | .done, listed => (Region.ready md ops listed).isEmpty
  | .calm k s, listed => (Region.ready md ops listed).contains k && Region.free md ops listed k && treeCB md ops s (listed.setIfInBounds k true)
  | .only k s, listed => decide (Region.ready md ops listed = [k]) && treeCB md ops s (listed.setIfInBounds k true)
  | .two j k s t, listed => decide (Region.ready md ops listed = [j, k]) && decide (s.len = t.len) && treeCB md ops s (listed.setIfInBounds j true) && treeCB md ops t (listed.setIfInBounds k true)
  | .three i j k r s t, listed => decide (Region.ready md ops listed = [i, j, k]) && decide (r.len = s.len) && decide (r.len = t.len) && treeCB md ops r (listed.setIfInBounds i true) && treeCB md ops s (listed.setIfInBounds j true) && treeCB md ops t (listed.setIfInBounds k true)
def treeCW (P : Program) (ops : Array Oper) (C : World → Prop) (Kf : Act → World → Prop) : Scc → Act → World → Prop
  | .done, a, w => Kf a w
  | .calm k s, a, w => ∃ (o : Oper) (d : Option Tmp) (v : Value), ops[k]? = some o ∧ o.dst = d ∧ CalmV P ops C o v a ∧ treeCW P ops C Kf s (a.put d v) w
  | .only k s, a, w => ∃ o : Oper, ops[k]? = some o ∧ wpList P ops (Qn fun a w => C w ∧ treeCW P ops C Kf s a w) [o] a w
  | .two j k s t, a, w => (∃ o : Oper, ops[j]? = some o ∧ wpList P ops (Qn fun a w => C w ∧ treeCW P ops C Kf s a w) [o] a w) ∧ ∃ o : Oper, ops[k]? = some o ∧ wpList P ops (Qn fun a w => C w ∧ treeCW P ops C Kf t a w) [o] a w
  | .three i j k r s t, a, w => (∃ o : Oper, ops[i]? = some o ∧ wpList P ops (Qn fun a w => C w ∧ treeCW P ops C Kf r a w) [o] a w) ∧ (∃ o : Oper, ops[j]? = some o ∧ wpList P ops (Qn fun a w => C w ∧ treeCW P ops C Kf s a w) [o] a w) ∧ ∃ o : Oper, ops[k]? = some o ∧ wpList P ops (Qn fun a w => C w ∧ treeCW P ops C Kf t a w) [o] a w

theorem op_of_list {Kf : Act → World → Prop} {k : Nat} {o : Oper} {s : Scc} {listed : Array Bool} {a : Act} {w : World} {n : Nat} (ho : ops[k]? = some o) (h : wpList P ops (Qn fun a w => C w ∧ treeCW P ops C Kf s a w) [o] a w)
    (ih : ∀ a' w', C w' → treeCW P ops C Kf s a' w' → wpAnyC P md ops C Kf n (listed.setIfInBounds k true) a' w') :
    wpOp P ops (Qn fun _ _ => False) k (fun a' w' => C w' ∧ wpAnyC P md ops C Kf n (listed.setIfInBounds k true) a' w') a w := by
  have hw : wpOp P ops (Qn fun a w => C w ∧ treeCW P ops C Kf s a w) k (wpList P ops (Qn fun a w => C w ∧ treeCW P ops C Kf s a w) []) a w := by unfold wpOp; simp only [ho]; exact h
  exact wpOp_qn (fun a' w' h' => ⟨h'.2.1, ih a' w' h'.2.1 h'.2.2⟩) hw

theorem any_treeC {Kf : Act → World → Prop} (hsel : Region.noSelect ops = true) (s : Scc) :
    ∀ (listed : Array Bool) (a : Act) (w : World), C w → treeCB md ops s listed = true → treeCW P ops C Kf s a w → wpAnyC P md ops C Kf s.len listed a w := by
  induction s with
  | done =>
    intro listed a w _ hB h
    exact ⟨by simpa [treeCB] using hB, h⟩
  | calm k s ih =>
    intro listed a w hC hB h
    obtain ⟨o, d, v, ho, hd, hp, hrest⟩ := h
    subst hd
    simp only [treeCB, Bool.and_eq_true] at hB
    exact calm_first ho (Region.noSelect_spec hsel) _ listed a w hC (Region.free_spec ho hB.1.2) (by simpa using hB.1.1) hp (ih _ _ _ hC hB.2 hrest)
  | only k s ih =>
    intro listed a w hC hB h
    obtain ⟨o, ho, h⟩ := h
    simp only [treeCB, Bool.and_eq_true, decide_eq_true_eq] at hB
    refine ⟨fun h1 => (by rw [hB.1] at h1; cases h1), fun i hi => ?_⟩
    rw [hB.1] at hi
    obtain rfl : i = k := by simpa using hi
    exact op_of_list ho h (fun a' w' hc ht => ih _ a' w' hc hB.2 ht)
  | two j k s t ihs iht =>
    intro listed a w hC hB h
    obtain ⟨⟨o, ho, h1⟩, ⟨o', ho', h2⟩⟩ := h
    simp only [treeCB, Bool.and_eq_true, decide_eq_true_eq] at hB
    obtain ⟨⟨⟨hr, hl⟩, hs⟩, ht⟩ := hB
    refine ⟨fun h1 => (by rw [hr] at h1; cases h1), fun i hi => ?_⟩
    rw [hr] at hi
    simp only [List.mem_cons, List.not_mem_nil, or_false] at hi
    rcases hi with rfl | rfl
    · exact op_of_list ho h1 (fun a' w' hc h' => ihs _ a' w' hc hs h')
    · exact op_of_list ho' h2 (fun a' w' hc h' => by have := iht _ a' w' hc ht h'; rwa [← hl] at this)
  | three p j k r s t ihr ihs iht =>
    intro listed a w hC hB h
    obtain ⟨⟨o0, ho0, h0⟩, ⟨o, ho, h1⟩, ⟨o', ho', h2⟩⟩ := h
    simp only [treeCB, Bool.and_eq_true, decide_eq_true_eq] at hB
    obtain ⟨⟨⟨⟨⟨hr, hl⟩, hl2⟩, h3⟩, hs⟩, ht⟩ := hB
    refine ⟨fun h1 => (by rw [hr] at h1; cases h1), fun i hi => ?_⟩
    rw [hr] at hi
    simp only [List.mem_cons, List.not_mem_nil, or_false] at hi
    rcases hi with rfl | rfl | rfl
    · exact op_of_list ho0 h0 (fun a' w' hc h' => ihr _ a' w' hc h3 h')
    · exact op_of_list ho h1 (fun a' w' hc h' => by have := ihs _ a' w' hc hs h'; rwa [← hl] at this)
    · exact op_of_list ho' h2 (fun a' w' hc h' => by have := iht _ a' w' hc ht h'; rwa [← hl2] at this)

/-- A region that draws its order, by a script with calm operations, to what is known at its end. -/
theorem region_calm {id : Nat} {Q : Exit → Act → World → Prop} {a : Act} {w : World} {l : List Oper} (C : World → Prop) (R : Act → World → Prop) (s : Scc) (hm : P.follows .mixedOrders = true) (hsel : Region.noSelect l.toArray = true)
    (hB : treeCB .any l.toArray s (Array.replicate l.toArray.size false) = true) (hlen : s.len = l.length) (hC : C w.drew)
    (h : treeCW P l.toArray C R s a w.drew) (hQ : ∀ a' w', R a' w' → Q .normal a' w') : (Code.region id l.toArray true).wp P Q a w := by
  refine wp_region_any hm ?_
  have := any_of_C _ _ _ _ (any_treeC (P := P) (md := .any) (Kf := R) hsel s _ a w.drew hC hB h)
  rw [hlen] at this
  have e := any_qn hQ _ _ _ _ this
  simpa using e
end
end Go.Proofs.Ytcmdhochofoohaa.Qt
namespace Go.Proofs.Ytcmdhochofoohaa
set_option linter.unusedVariables false
open Go.ChangeShapes Go.WideShapes Go.ChangeAt Go.RowKit Go.Deep

theorem i64_wf6 {a : Int} (h : (Lit.int .i64 a).wf = true) : I64 a := by
  have : IntKind.i64.min ≤ a ∧ a ≤ IntKind.i64.max := by simpa [Lit.wf] using h
  simpa [I64, IntKind.min, IntKind.max, IntKind.signed, IntKind.bits] using this

section
variable {H : Type} {enc : TypeId × Value → H} {w : World} {base : Nat} {spare : Nat → Bool} {held : Bool} {P : Program}
theorem exists_list6 {α : Type} (d : α) {n : Nat} {Q : Nat → α → Prop} (h : ∀ i, i < n → ∃ p, Q i p) : ∃ l : List α, l.length = n ∧ ∀ i, i < n → Q i (l.getD i d) := by
  induction n with
  | zero => exact ⟨[], rfl, fun i hi => absurd hi (Nat.not_lt_zero i)⟩
  | succ n ih =>
    obtain ⟨l, hl, hq⟩ := ih fun i hi => h i (by omega)
    obtain ⟨p, hp⟩ := h n (by omega)
    refine ⟨l ++ [p], by simp [hl], fun i hi => ?_⟩
    by_cases hin : i < n
    · rw [List.getD_eq_getElem?_getD, List.getElem?_append_left (by omega), ← List.getD_eq_getElem?_getD]
      exact hq i hin
    · have : i = n := by omega
      subst this
      rw [List.getD_eq_getElem?_getD, List.getElem?_append_right (by omega), hl]
      simpa using hp
/-- an array of numbers -/
theorem ints_in {t e : TypeId} {n fuel : Nat} {cs : List Value} {x : DataW H × List MemPlace} (ht : P.underlying t = some (.array n e)) (he : P.underlying e = some (.int .i64)) (h1 : P.cellsOf e = 1) (hn : P.cellsOf t = n)
    (h : DataW.trod enc P w base spare held fuel t cs = some x) : ∃ l : List Int, l.length = n ∧ cs = l.map (Value.int .i64) ∧ ∀ i, i < n → I64 (l.getD i 0) := by
  obtain ⟨xs, m, _, _, hlen, hxl, hx⟩ := DataW.trod_array ht h
  rw [hn] at hlen
  have hq : ∀ i, i < n → ∃ u : Int, cs[i]? = some (.int .i64 u) ∧ I64 u := by
    intro i hi
    have h2 := hx i hi
    rw [h1, List.getElem?_eq_getElem (by omega)] at h2
    obtain ⟨u, hu, _, wu⟩ := DataW.trod_int he h2
    refine ⟨u, ?_, i64_wf6 wu⟩
    have h3 : ((cs.drop (i * 1)).take 1)[0]? = some (.int .i64 u) := by rw [hu]; rfl
    simpa using h3
  obtain ⟨l, hl, hlq⟩ := exists_list6 0 hq
  refine ⟨l, hl, ?_, fun i hi => (hlq i hi).2⟩
  refine List.ext_getElem? fun i => ?_
  by_cases hi : i < n
  · rw [(hlq i hi).1, List.getElem?_map, List.getElem?_eq_getElem (by omega), List.getD_eq_getElem?_getD, List.getElem?_eq_getElem (by omega)]
    rfl
  · rw [List.getElem?_eq_none (by omega), List.getElem?_eq_none (by rw [List.length_map]; omega)]
/-- a slice whose elements take some cells each -/
theorem els_in {α : Type} (dec : α → List Value) (d : α) (Q : α → Prop) (n : Nat) (hn0 : 0 < n) {t e : TypeId} {fuel : Nat} {a0 : Option Addr} {len0 cap0 : Nat} {x : DataW H × List MemPlace} (hdec : ∀ a, (dec a).length = n) (ht : P.underlying t = some (.slice e)) (hn : P.cellsOf e = n)
    (he : ∀ fuel cs (y : DataW H × List MemPlace), DataW.trod enc P w base spare held fuel e cs = some y → ∃ a, cs = dec a ∧ Q a)
    (h : DataW.trod enc P w base spare held fuel t [.slice a0 len0 cap0] = some x) :
    ∃ l : List α, l.length = len0 ∧ len0 ≤ cap0 ∧ cap0 ≤ maxLen ∧ (∀ j, j < l.length → ∃ b off, a0 = some ⟨b, off, none⟩ ∧ b < w.heap.size ∧ ∀ i, i < n → w.cell? ⟨b, off + j * n + i, none⟩ = (dec (l.getD j d))[i]?) ∧ ∀ j, j < l.length → Q (l.getD j d) := by
  rcases open_slice ht h with ⟨hcs, _⟩ | ⟨a, len, cap, m, k, D, Pl, hcs, hb, hl, hm, hmm, _, hi⟩
  · simp at hcs
    obtain ⟨rfl, rfl, rfl⟩ := hcs
    exact ⟨[], rfl, Nat.le_refl _, by simp [maxLen], fun j hj => absurd hj (Nat.not_lt_zero j), fun j hj => absurd hj (Nat.not_lt_zero j)⟩
  · simp at hcs
    obtain ⟨rfl, rfl, rfl⟩ := hcs
    have hlm : len0 ≤ m := by rw [hmm]; split <;> omega
    have hq : ∀ i, i < len0 → ∃ p : α, (∀ q, q < n → w.cell? ((a.add (i * n)).add q) = (dec p)[q]?) ∧ Q p := by
      intro i hi'
      obtain ⟨cs', hc, ht'⟩ := hi i (by omega)
      rw [hn] at hc
      obtain ⟨p, rfl, hp⟩ := he _ _ _ ht'
      obtain ⟨_, _, hat⟩ := World.cells?_some hc
      exact ⟨p, fun q hq => hat q (by omega), hp⟩
    obtain ⟨l, hll, hlq⟩ := exists_list6 d hq
    refine ⟨l, hll, hl, hm, fun j hj => ?_, fun j hj => (hlq j (by omega)).2⟩
    obtain ⟨b, off, spot⟩ := a
    have hc := (hlq j (by omega)).1
    have h0 := hc 0 hn0
    rw [List.getElem?_eq_getElem (by rw [hdec]; exact hn0)] at h0
    have h00 := (hlq 0 (by omega)).1 0 hn0
    rw [List.getElem?_eq_getElem (by rw [hdec]; exact hn0)] at h00
    have hspot : spot = none := by simpa [Addr.add] using World.cell?_spot h00
    subst hspot
    refine ⟨b, off, rfl, ?_, fun i hi => ?_⟩
    · rw [Addr.add_lit] at h0
      exact block_lt_of_cell h0
    · have := hc i hi
      rw [Addr.add_lit, Addr.add_lit] at this
      exact this
/-- five numbers -/
def dec5 (r : Raw5) : List Value := [.int .i64 r.1, .int .i64 r.2.1, .int .i64 r.2.2.1, .int .i64 r.2.2.2.1, .int .i64 r.2.2.2.2]
def dec4 (k : Kd) : List Value := [.int .i64 k.1, .int .i64 k.2.1, .int .i64 k.2.2.1, .int .i64 k.2.2.2]
def Fine4 (k : Kd) : Prop := I64 k.1 ∧ I64 k.2.1 ∧ I64 k.2.2.1 ∧ I64 k.2.2.2
def FineN (x : Nd) : Prop := I64 x.1 ∧ Fine4 x.2.1 ∧ I64 x.2.2
theorem five_in {t e : TypeId} {fuel : Nat} {cs : List Value} {x : DataW H × List MemPlace} (ht : P.underlying t = some (.array 5 e)) (he : P.underlying e = some (.int .i64)) (h1 : P.cellsOf e = 1) (hn : P.cellsOf t = 5)
    (h : DataW.trod enc P w base spare held fuel t cs = some x) : ∃ r : Raw5, cs = dec5 r ∧ Fine5 r := by
  obtain ⟨l, hl, rfl, hI⟩ := ints_in ht he h1 hn h
  match l, hl with
  | [a, b, c, d, e], _ => exact ⟨(a, b, c, d, e), rfl, hI 0 (by decide), hI 1 (by decide), hI 2 (by decide), hI 3 (by decide), hI 4 (by decide)⟩
theorem four_in {t e : TypeId} {fuel : Nat} {cs : List Value} {x : DataW H × List MemPlace} (ht : P.underlying t = some (.array 4 e)) (he : P.underlying e = some (.int .i64)) (h1 : P.cellsOf e = 1) (hn : P.cellsOf t = 4)
    (h : DataW.trod enc P w base spare held fuel t cs = some x) : ∃ k : Kd, cs = dec4 k ∧ Fine4 k := by
  obtain ⟨l, hl, rfl, hI⟩ := ints_in ht he h1 hn h
  match l, hl with
  | [a, b, c, d], _ => exact ⟨(a, b, c, d), rfl, hI 0 (by decide), hI 1 (by decide), hI 2 (by decide), hI 3 (by decide)⟩
/-- a node: a number, four, a number -/
theorem node_in {t e t4 : TypeId} {f0 f1 f2 : Field} {fuel : Nat} {cs : List Value} {x : DataW H × List MemPlace} (ht : P.underlying t = some (.struct #[f0, f1, f2])) (e0 : f0.type = e) (e1 : f1.type = t4) (e2 : f2.type = e) (o0 : f0.offset = 0) (o1 : f1.offset = 1) (o2 : f2.offset = 5)
    (h4 : P.underlying t4 = some (.array 4 e)) (he : P.underlying e = some (.int .i64)) (h1 : P.cellsOf e = 1) (hn4 : P.cellsOf t4 = 4) (hn : P.cellsOf t = 6)
    (h : DataW.trod enc P w base spare held fuel t cs = some x) : ∃ a : Nd, cs = cellsN a ∧ FineN a := by
  obtain ⟨y0, y1, y2, m, _, hlen, k0, k1, k2⟩ := trod_struct3 ht h
  rw [hn] at hlen
  rw [e0, o0, h1] at k0
  rw [e1, o1, hn4] at k1
  rw [e2, o2, h1] at k2
  obtain ⟨a, hu, _, wu⟩ := DataW.trod_int he k0
  obtain ⟨k, hk, fk⟩ := four_in h4 he h1 hn4 k1
  obtain ⟨c, hv, _, wv⟩ := DataW.trod_int he k2
  match cs, hlen with
  | [x0, x1, x2, x3, x4, x5], _ =>
    refine ⟨(a, k, c), ?_, i64_wf6 wu, fk, i64_wf6 wv⟩
    simp [dec4] at hu hk hv
    simp [cellsN, hu, hk, hv]
end
theorem raws_in {H : Type} {enc : TypeId × Value → H} {w : World} {base : Nat} {spare : Nat → Bool} {held : Bool} {fuel : Nat} {a0 : Option Addr} {len0 cap0 : Nat} {x : DataW H × List MemPlace}
    (h : DataW.trod enc Try.prog w base spare held fuel 22 [.slice a0 len0 cap0] = some x) : ∃ l : List Raw5, l.length = len0 ∧ len0 ≤ cap0 ∧ cap0 ≤ maxLen ∧ RdR w w.heap.size a0 l ∧ ∀ j, j < l.length → Fine5 (l.getD j dead5) := by
  obtain ⟨l, h1, h2, h3, h4, h5⟩ := els_in dec5 dead5 Fine5 5 (by decide) (fun _ => rfl) Try.underlying22 (by kernel_rfl) (fun _ _ _ hy => five_in Try.underlying27 Try.underlying3 (by kernel_rfl) (by kernel_rfl) hy) h
  refine ⟨l, h1, h2, h3, fun j hj => ?_, h5⟩
  obtain ⟨b, off, e, hb, hc⟩ := h4 j hj
  exact ⟨b, off, e, hb, hc 0 (by decide), hc 1 (by decide), hc 2 (by decide), hc 3 (by decide), hc 4 (by decide)⟩
theorem nodes_in {H : Type} {enc : TypeId × Value → H} {w : World} {base : Nat} {spare : Nat → Bool} {held : Bool} {fuel : Nat} {a0 : Option Addr} {len0 cap0 : Nat} {x : DataW H × List MemPlace}
    (h : DataW.trod enc Try.prog w base spare held fuel 23 [.slice a0 len0 cap0] = some x) : ∃ l : List Nd, l.length = len0 ∧ len0 ≤ cap0 ∧ cap0 ≤ maxLen ∧ RdN w w.heap.size a0 l ∧ ∀ j, j < l.length → FineN (l.getD j deadN) := by
  obtain ⟨l, h1, h2, h3, h4, h5⟩ := els_in cellsN deadN FineN 6 (by decide) (fun _ => rfl) Try.underlying23 (by kernel_rfl) (fun _ _ _ hy => node_in Try.underlying49 rfl rfl rfl rfl rfl rfl Try.underlying26 Try.underlying3 (by kernel_rfl) (by kernel_rfl) (by kernel_rfl) hy) h
  refine ⟨l, h1, h2, h3, fun j hj => ?_, h5⟩
  obtain ⟨b, off, e, hb, hc⟩ := h4 j hj
  exact ⟨b, off, e, hb, hc 0 (by decide), hc 1 (by decide), hc 2 (by decide), hc 3 (by decide), hc 4 (by decide), hc 5 (by decide)⟩
end Go.Proofs.Ytcmdhochofoohaa
namespace Go.Proofs.Ytcmdhochofoohaa
set_option maxRecDepth 100000
set_option linter.unusedVariables false
open Go.ChangeShapes Go.WideShapes Go.ChangeAt Go.RowKit Go.Deep
theorem own : ownKnob Try.prog.godebug = none := by kernel_rfl
theorem laidOut : laidOutB Try.prog = true := by kernel_rfl
section
variable {H : Type} {enc : TypeId × Value → H} {W : World} {base : Nat} {spare : Nat → Bool} {held : Bool} {P : Program}
theorem okWide_arr6 {t e : TypeId} {n b0 : Nat} {r : Reach} {v : Value} (ht : P.underlying t = some (.array n e)) (h : Value.okWide P W r b0 t v) : ∃ xs : Array Value, v = .agg xs := by
  simp only [Value.okWide, ht] at h
  obtain ⟨cs, h1, h2, _⟩ := h
  exact ⟨cs, h1⟩
theorem five_val {t e : TypeId} {b0 : Nat} {r : Reach} {v : Value} {d : DataW H} {ps : List MemPlace} (ht : P.underlying t = some (.array 5 e)) (he : P.underlying e = some (.int .i64)) (h1 : P.cellsOf e = 1) (hn : P.cellsOf t = 5)
    (hv : Value.okWide P W r b0 t v) (h : DataW.Trod enc P W base spare held t v d ps) : ∃ r : Raw5, v = rawV r ∧ Fine5 r := by
  obtain ⟨xs, rfl⟩ := okWide_arr6 ht hv
  obtain ⟨fuel, hf⟩ := h
  obtain ⟨r, hr, fr⟩ := five_in ht he h1 hn hf
  refine ⟨r, ?_, fr⟩
  have hx : xs = (dec5 r).toArray := by
    have hr' : xs.toList = dec5 r := hr
    rw [← hr']
  rw [hx]
  rfl
theorem four_val {t e : TypeId} {b0 : Nat} {r : Reach} {v : Value} {d : DataW H} {ps : List MemPlace} (ht : P.underlying t = some (.array 4 e)) (he : P.underlying e = some (.int .i64)) (h1 : P.cellsOf e = 1) (hn : P.cellsOf t = 4)
    (hv : Value.okWide P W r b0 t v) (h : DataW.Trod enc P W base spare held t v d ps) : ∃ k : Kd, v = kidsV k ∧ Fine4 k := by
  obtain ⟨xs, rfl⟩ := okWide_arr6 ht hv
  obtain ⟨fuel, hf⟩ := h
  obtain ⟨r, hr, fr⟩ := four_in ht he h1 hn hf
  refine ⟨r, ?_, fr⟩
  have hx : xs = (dec4 r).toArray := by
    have hr' : xs.toList = dec4 r := hr
    rw [← hr']
  rw [hx]
  rfl
end
end Go.Proofs.Ytcmdhochofoohaa
