/-
  Texts that the claims of this seat share, part 8.
-/
import Derived.Test.YtikgnjcjbjafaaaB07
import Derived.Deep.RegionWith
import Derived.Test.YtikgnjcjbjafaaaB04
import Derived.ProofKit
import Derived.OpenShut
import Derived.ChangeOld
import Derived.Deep.Slices
import Derived.Deep.Fields
import Derived.Deep.Strs
import Derived.Test.YtikgnjcjbjafaaaRows
set_option linter.unusedVariables false
set_option linter.unusedSimpArgs false
namespace Go.Proofs.Ytikgnjcjbjafaaa
set_option linter.unusedVariables false
set_option linter.unusedSimpArgs false
open Go.RowKit Go.Sort

def rd5 (r : Raw5) : Nat → Int
  | 0 => r.1
  | 1 => r.2.1
  | 2 => r.2.2.1
  | 3 => r.2.2.2.1
  | _ => r.2.2.2.2
def rawV (r : Raw5) : Value := .agg #[.int .i64 r.1, .int .i64 r.2.1, .int .i64 r.2.2.1, .int .i64 r.2.2.2.1, .int .i64 r.2.2.2.2]
def Fine5 (r : Raw5) : Prop := I64 r.1 ∧ I64 r.2.1 ∧ I64 r.2.2.1 ∧ I64 r.2.2.2.1 ∧ I64 r.2.2.2.2
theorem Fine5.at_ {r : Raw5} (h : Fine5 r) : ∀ i, I64 (rd5 r i) := by
  intro i
  match i with
  | 0 => exact h.1
  | 1 => exact h.2.1
  | 2 => exact h.2.2.1
  | 3 => exact h.2.2.2.1
  | n + 4 => exact h.2.2.2.2
theorem pick6_I (c n : Int) : pick6 c n = pickI c n := rfl
/-- so many of the four -/
def kdTo (K : Kd) (n : Nat) : Kd := (if 0 < n then K.1 else 0, if 1 < n then K.2.1 else 0, if 2 < n then K.2.2.1 else 0, if 3 < n then K.2.2.2 else 0)
theorem kdTo_4 (K : Kd) : kdTo K 4 = K := rfl
theorem kids6_kd (l : List Nd) (r : Raw5) : ∀ i, i < 4 → kd (kids6 l r) i = pickOf (sameTo l (levOf l r) l.length) (rd5 r i) := by
  intro i hi
  match i, hi with
  | 0, _ => rfl
  | 1, _ => rfl
  | 2, _ => rfl
  | 3, _ => rfl
theorem kdTo_set {w : World} {g T : Nat} {K : Kd} {k : Nat} (hk : k < 4) (h : w.heap[g]? = some (.cells #[.int .i64 (kdTo K k).1, .int .i64 (kdTo K k).2.1, .int .i64 (kdTo K k).2.2.1, .int .i64 (kdTo K k).2.2.2] T (0, 0))) :
    (w.setCell ⟨g, k, none⟩ (.int .i64 (kd K k))).heap[g]? = some (.cells #[.int .i64 (kdTo K (k + 1)).1, .int .i64 (kdTo K (k + 1)).2.1, .int .i64 (kdTo K (k + 1)).2.2.1, .int .i64 (kdTo K (k + 1)).2.2.2] T (0, 0)) := by
  match k, hk with
  | 0, _ => simp [World.setCell, Array.getElem?_modify, h, kdTo, kd]
  | 1, _ => simp [World.setCell, Array.getElem?_modify, h, kdTo, kd]
  | 2, _ => simp [World.setCell, Array.getElem?_modify, h, kdTo, kd]
  | 3, _ => simp [World.setCell, Array.getElem?_modify, h, kdTo, kd]
theorem kdTo_cell {w : World} {g T : Nat} {K : Kd} {k j : Nat} (hj : j < 4) (h : w.heap[g]? = some (.cells #[.int .i64 (kdTo K k).1, .int .i64 (kdTo K k).2.1, .int .i64 (kdTo K k).2.2.1, .int .i64 (kdTo K k).2.2.2] T (0, 0))) :
    w.cell? ⟨g, j, none⟩ = some (.int .i64 (kd (kdTo K k) j)) := by
  rw [Lib.cell_of_heap h]
  match j, hj with
  | 0, _ => rfl
  | 1, _ => rfl
  | 2, _ => rfl
  | 3, _ => rfl
/-- What is known within Kids. -/
structure KidHead (w wr : World) (A : Option Addr) (n c : Nat) (room : Int) (r : Raw5) : Prop where
  store : wr.heap[w.heap.size]? = some (.cells #[.slice A n c, .int .i64 room] 27 (0, 0))
  raw : wr.heap[w.heap.size + 1]? = some (.cells #[.int .i64 r.1, .int .i64 r.2.1, .int .i64 r.2.2.1, .int .i64 r.2.2.2.1, .int .i64 r.2.2.2.2] 107 (0, 0))
  res : wr.heap[w.heap.size + 2]? = some (.cells #[.int .i64 0, .int .i64 0, .int .i64 0, .int .i64 0] 52 (0, 0))
  bel : Below w.heap.size w wr
section
variable {w wr w' : World} {A : Option Addr} {n c : Nat} {room : Int} {r : Raw5}
theorem KidHead.size (h : KidHead w wr A n c room r) : w.heap.size + 3 ≤ wr.heap.size := lt_heap6 h.res
theorem KidHead.below (h : KidHead w wr A n c room r) (hb : Below (w.heap.size + 3) wr w') : KidHead w w' A n c room r :=
  ⟨(hb.block _ (by omega)).trans h.store, (hb.block _ (by omega)).trans h.raw, (hb.block _ (by omega)).trans h.res, h.bel.trans (hb.mono (by omega))⟩
theorem KidHead.s0 (h : KidHead w wr A n c room r) : wr.cell? ⟨w.heap.size, 0, none⟩ = some (.slice A n c) := by rw [Lib.cell_of_heap h.store]; rfl
theorem KidHead.r_ (h : KidHead w wr A n c room r) {i : Nat} (hi : i < 5) : wr.cell? ⟨w.heap.size + 1, i, none⟩ = some (.int .i64 (rd5 r i)) := by
  rw [Lib.cell_of_heap h.raw]
  match i, hi with
  | 0, _ => rfl
  | 1, _ => rfl
  | 2, _ => rfl
  | 3, _ => rfl
  | 4, _ => rfl
end
theorem kidHead_0 (w : World) (A : Option Addr) (n c : Nat) (room : Int) (r : Raw5) : KidHead w (((w.alloc (.cells #[.slice A n c, .int .i64 room] 27)).alloc (.cells #[.int .i64 r.1, .int .i64 r.2.1, .int .i64 r.2.2.1, .int .i64 r.2.2.2.1, .int .i64 r.2.2.2.2] 107)).alloc (.cells #[.int .i64 0, .int .i64 0, .int .i64 0, .int .i64 0] 52)) A n c room r := by
  have h1 := storeAt_0 w A n c room
  have hs := lt_heap6 h1.store
  have hsz : (w.alloc (.cells #[.slice A n c, .int .i64 room] 27)).heap.size = w.heap.size + 1 := by simp
  have hsz2 : ((w.alloc (.cells #[.slice A n c, .int .i64 room] 27)).alloc (.cells #[.int .i64 r.1, .int .i64 r.2.1, .int .i64 r.2.2.1, .int .i64 r.2.2.2.1, .int .i64 r.2.2.2.2] 107)).heap.size = w.heap.size + 2 := by simp
  refine ⟨(Lib.alloc_old _ _ _ (by omega)).trans ((Lib.alloc_old _ _ _ (by omega)).trans h1.store), (Lib.alloc_old _ _ _ (by omega)).trans ?_, ?_, (h1.bel.alloc (by omega) _).alloc (by omega) _⟩
  · rw [← hsz]
    exact heap_alloc_new _ _
  · rw [← hsz2]
    exact heap_alloc_new _ _

/-- what was told -/
theorem kid_told {w wr : World} {K : Kd} (h : wr.heap[w.heap.size + 2]? = some (.cells #[.int .i64 0, .int .i64 0, .int .i64 0, .int .i64 0] 52 (0, 0))) (hb : Below w.heap.size w wr) :
    ((((wr.setCell ⟨w.heap.size + 1 + 1, 0, none⟩ (.int .i64 K.1)).setCell ⟨w.heap.size + 1 + 1, 1, none⟩ (.int .i64 K.2.1)).setCell ⟨w.heap.size + 1 + 1, 2, none⟩ (.int .i64 K.2.2.1)).setCell ⟨w.heap.size + 1 + 1, 3, none⟩ (.int .i64 K.2.2.2)).heap[w.heap.size + 1 + 1]? = some (.cells #[.int .i64 K.1, .int .i64 K.2.1, .int .i64 K.2.2.1, .int .i64 K.2.2.2] 52 (0, 0)) ∧
    Below w.heap.size w ((((wr.setCell ⟨w.heap.size + 1 + 1, 0, none⟩ (.int .i64 K.1)).setCell ⟨w.heap.size + 1 + 1, 1, none⟩ (.int .i64 K.2.1)).setCell ⟨w.heap.size + 1 + 1, 2, none⟩ (.int .i64 K.2.2.1)).setCell ⟨w.heap.size + 1 + 1, 3, none⟩ (.int .i64 K.2.2.2)) := by
  refine ⟨by simp [World.setCell, Array.getElem?_modify, h], ?_⟩
  exact (((hb.setCell (by show _ ≤ _ + 1 + 1; omega) _).setCell (by show _ ≤ _ + 1 + 1; omega) _).setCell (by show _ ≤ _ + 1 + 1; omega) _).setCell (by show _ ≤ _ + 1 + 1; omega) _

set_option maxHeartbeats 4000000 in
set_option maxRecDepth 100000 in
theorem kids6_any (A : Option Addr) (l : List Nd) (c : Nat) (room : Int) (r : Raw5) (w : World) (hR : RdN w w.heap.size A l) (hl : l.length ≤ 100000) (hr : Fine5 r) :
    Calls Try.prog 77 #[storeV A l.length c room, rawV r] w fun e w' => e = .returned (kidsV (kids6 l r)) ∧ Below w.heap.size w w' := by
  have HH0 := Lib.hid (kidHead_0 w A l.length c room r)
  have s0 := HH0.out.s0
  have k4 := HH0.out.r_ (i := 4) (by decide)
  simp only [rd5] at k4
  obtain ⟨lev, hlev⟩ : ∃ lev, lev = levOf l r := ⟨_, rfl⟩
  have hkk := kids6_kd l r
  rw [← hlev] at hkk
  obtain ⟨K, hK⟩ : ∃ K, K = kids6 l r := ⟨_, rfl⟩
  rw [← hK] at hkk ⊢
  have HKK := Lib.hid hkk
  have HK := Lib.hid hK
  unfold storeV rawV
  clear hkk hK
  by_cases h0 : 0 < l.length
  · have h0z : (l.length : Int) > 0 := by omega
    obtain ⟨m, hm⟩ : ∃ m, m = (pickI r.2.2.2.2 l.length).toNat := ⟨_, rfl⟩
    have hmb := pickI_bd r.2.2.2.2 l.length (by omega)
    have hml : m < l.length := by omega
    have hpick := fun W => pick_nat r.2.2.2.2 l.length W hr.2.2.2.2 (by omega) (by omega)
    rw [← hm] at hpick
    have hlv : (l.getD m deadN).1 = lev := by
      rw [hlev]
      unfold levOf
      rw [if_pos h0, hm]
      rfl
    have hSpos : 0 < (sameTo l lev l.length).length := List.length_pos_of_mem (sameTo_mem hml hlv)
    obtain ⟨b0, off, rfl, hbB, hcell⟩ := hR.at_ h0
    obtain ⟨m0, _, _, _, _, _⟩ := hcell m hml
    rw [hlv] at m0
    have m0 := Qt.keep HH0.out.bel m0
    have hd0 : decide ((m : Int) < 0) = false := decide_eq_false (by omega)
    have hd1 : decide (l.length ≤ m) = false := decide_eq_false (by omega)
    have hmlz : (m : Int) < (l.length : Int) := by omega
    clear hm hmb hlv hlev hcell
    go_enter Try.func77, Try.ntmps77
    go_wp2_with fail
    generalize ((w.alloc (.cells #[.slice (some ⟨b0, off, none⟩) l.length c, .int .i64 room] 27)).alloc (.cells #[.int .i64 r.1, .int .i64 r.2.1, .int .i64 r.2.2.1, .int .i64 r.2.2.2.1, .int .i64 r.2.2.2.2] 107)).alloc (.cells #[.int .i64 0, .int .i64 0, .int .i64 0, .int .i64 0] 52) = w0 at *
    have q0 := Qt.cell_in s0
    have q1 := Qt.cell_in k4
    have q2 := Qt.cell_in m0
    refine Qt.below_all (by kernel_rfl) (by kernel_rfl) ?_
    repeat (go_big_quiet_step (first | (go_at_call 75; exact Qt.at_same fun _ _ => hpick _)))
    refine wpQuiet_nil ?_
    intro w1 hb1
    have H1 := HH0.out.below (hb1.mono HH0.out.size)
    clear q0 q1 q2 s0 k4 m0 hd0 hd1 hpick hb1
    have HR := Lib.hid hR
    have HF := Lib.hid hr
    clear hr
    have hlen0 := h0
    clear h0 h0z hml hmlz m0
    go_wp2_with fail
    go_loopw [5, 7] (fun v i wr => ∃ j : Nat, j ≤ l.length ∧ i = .int .i64 j ∧ Hid (KidHead w wr (some ⟨b0, off, none⟩) l.length c room r ∧ Own wr (w.heap.size + 3) v (sameTo l lev j))) (fun _ i _ => l.length - (intOf i).toNat)
    case atStart => exact ⟨0, Nat.zero_le _, rfl, H1, World.ownsRow_nil _ _ _ _⟩
    case round =>
      obtain ⟨j, hj, rfl, HH⟩ := hrel
      have H := HH.out.1
      have s0 := H.s0
      by_cases hlt : j < l.length
      · have hltz : (j : Int) < (l.length : Int) := by omega
        obtain ⟨b1, off1, he, hbB1, hcell⟩ := HR.out.at_ hlen0
        obtain ⟨rfl, rfl⟩ : b0 = b1 ∧ off = off1 := by injection he with he; injection he with h1 h2; exact ⟨h1, h2⟩
        obtain ⟨n0, _, _, _, _, _⟩ := hcell j hlt
        have n0 := Qt.keep H.bel n0
        have hsucc := sameTo_succ l lev j
        have hsl := sameTo_len l lev j
        clear hcell he
        generalize (l.getD j deadN).1 = x at *
        by_cases hx : x = lev
        · subst hx
          rw [if_pos rfl] at hsucc
          obtain ⟨v', w', hrun, hown, hb2⟩ := push_any (j : Int) H.size HH.out.2 (by omega)
          have HS := Lib.hid hsucc
          have HN : Hid (KidHead w w' (some ⟨b0, off, none⟩) l.length c room r ∧ Own w' (w.heap.size + 3) v' (sameTo l x (j + 1))) := ⟨H.below hb2, by rw [hsucc]; exact hown⟩
          have HRUN := Lib.hid hrun
          clear hsucc hown hrun hsl hb2
          go_wp2_with (at_builtin; refine Lib.wpList_append_run _ rfl (.tmp 40) (.tmp 42) 60 60 rfl _ _ rfl rfl _ _ HRUN.out ?_)
          go_roundw
          case measure => simp [intOf]; omega
          case rel => exact ⟨j + 1, by omega, by go_num, HN.out⟩
        · rw [if_neg hx] at hsucc
          have hown := HH.out.2
          rw [← hsucc] at hown
          have HN := Lib.hid (And.intro H hown)
          clear hsucc hsl HH H hown
          go_wp2
          go_roundw
          case measure => simp [intOf]; omega
          case rel => exact ⟨j + 1, by omega, by go_num, HN.out⟩
      · obtain rfl : j = l.length := by omega
        have hltz : ¬ (l.length : Int) < (l.length : Int) := by omega
        obtain ⟨A2, c2, rfl, hc2, hN⟩ := HH.out.2.reads
        have hsl := sameTo_len l lev l.length
        generalize sameTo l lev l.length = S at *
        have hgs := H.size
        have hrow := heap_alloc_new wr (.cells #[.int .i64 0, .int .i64 0, .int .i64 0, .int .i64 0] 52 (0, 0))
        have hba : Below wr.heap.size wr (wr.alloc (.cells #[.int .i64 0, .int .i64 0, .int .i64 0, .int .i64 0] 52)) := (Below.refl _ _).alloc (Nat.le_refl _) _
        have h20 := Lib.hid (And.intro (H.below (hba.mono hgs)) (And.intro (show (wr.alloc (.cells #[.int .i64 0, .int .i64 0, .int .i64 0, .int .i64 0] 52)).heap[wr.heap.size]? = some (.cells #[.int .i64 (kdTo K 0).1, .int .i64 (kdTo K 0).2.1, .int .i64 (kdTo K 0).2.2.1, .int .i64 (kdTo K 0).2.2.2] 52 (0, 0)) from hrow) (Rd.below hN hba (Nat.le_refl _))))
        have hSz : (S.length : Int) > 0 := by omega
        clear hrow hba hN HH H
        go_wp2_with fail
        generalize wr.alloc (.cells #[.int .i64 0, .int .i64 0, .int .i64 0, .int .i64 0] 52) = wx at *
        generalize wr.heap.size = g at *
        clear s0
        go_loopw [9] (fun i wq => ∃ k : Nat, k ≤ 4 ∧ i = .int .i64 k ∧ Hid (KidHead w wq (some ⟨b0, off, none⟩) l.length c room r ∧ wq.heap[g]? = some (.cells #[.int .i64 (kdTo K k).1, .int .i64 (kdTo K k).2.1, .int .i64 (kdTo K k).2.2.1, .int .i64 (kdTo K k).2.2.2] 52 (0, 0)) ∧ Rd wq g A2 S)) (fun i _ => 4 - (intOf i).toNat)
        case atStart => exact ⟨0, by omega, rfl, h20⟩
        case round =>
          obtain ⟨k, hk, rfl, HH⟩ := hrel
          obtain ⟨H, hrow, hRd⟩ := HH.out
          by_cases hlt : k < 4
          · have hltz : (k : Int) < 4 := by omega
            obtain ⟨q, hq⟩ : ∃ q, q = (pickI (rd5 r k) S.length).toNat := ⟨_, rfl⟩
            have hqb := pickI_bd (rd5 r k) S.length (by omega)
            have hql : q < S.length := by omega
            have hpick := fun W => pick_nat (rd5 r k) S.length W (HF.out.at_ k) (by omega) (by omega)
            rw [← hq] at hpick
            have hkd : kd K k = S.getD q 0 := by
              rw [HKK.out k hlt]
              unfold pickOf
              rw [if_pos hSpos, hq]
              rfl
            obtain ⟨b1, off1, rfl, hb1g, hcell⟩ := hRd.at_ hSpos
            have hc := hcell q hql
            rw [← hkd] at hc
            have r_ := H.r_ (i := k) (by omega)
            have hqz : (q : Int) < (S.length : Int) := by omega
            have hkz : (k : Int) < 5 := by omega
            have gc := kdTo_cell hlt hrow
            have gf := Lib.frozen_of_heap hrow k
            have hbs : Below g wr (wr.setCell ⟨g, k, none⟩ (.int .i64 (kd K k))) := (Below.refl _ _).setCell (by show g ≤ g; omega) _
            have HN := Lib.hid (And.intro (H.below (hbs.mono hgs)) (And.intro (kdTo_set hlt hrow) (Rd.below hRd hbs (Nat.le_refl _))))
            clear hq hqb hcell hrow hRd HH H hbs h20 hkd
            generalize rd5 r k = x at *
            generalize kd K k = y at *
            generalize kd (kdTo K k) k = z at *
            go_wp2_with fail
            refine (hpick _).mono ?_
            rintro e w' ⟨rfl, rfl⟩
            clear hpick
            go_wp2
            go_roundw
            case measure => simp [intOf]; omega
            case rel => exact ⟨k + 1, by omega, by go_num, HN⟩
          · obtain rfl : k = 4 := by omega
            have hltz : ¬ ((4 : Nat) : Int) < 4 := by decide
            have c0 := kdTo_cell (j := 0) (by decide) hrow
            have c1 := kdTo_cell (j := 1) (by decide) hrow
            have c2 := kdTo_cell (j := 2) (by decide) hrow
            have c3 := kdTo_cell (j := 3) (by decide) hrow
            rw [kdTo_4] at c0 c1 c2 c3
            simp only [kd] at c0 c1 c2 c3
            have hres := H.res
            have t0 : wr.cell? ⟨w.heap.size + 1 + 1, 0, none⟩ = some (.int .i64 0) := by rw [Lib.cell_of_heap hres]; rfl
            have t1 : wr.cell? ⟨w.heap.size + 1 + 1, 1, none⟩ = some (.int .i64 0) := by rw [Lib.cell_of_heap hres]; rfl
            have t2 : wr.cell? ⟨w.heap.size + 1 + 1, 2, none⟩ = some (.int .i64 0) := by rw [Lib.cell_of_heap hres]; rfl
            have t3 : wr.cell? ⟨w.heap.size + 1 + 1, 3, none⟩ = some (.int .i64 0) := by rw [Lib.cell_of_heap hres]; rfl
            have f0 : wr.frozen? ⟨w.heap.size + 1 + 1, 0, none⟩ = false := Lib.frozen_of_heap hres 0
            have f1 : wr.frozen? ⟨w.heap.size + 1 + 1, 1, none⟩ = false := Lib.frozen_of_heap hres 1
            have f2 : wr.frozen? ⟨w.heap.size + 1 + 1, 2, none⟩ = false := Lib.frozen_of_heap hres 2
            have f3 : wr.frozen? ⟨w.heap.size + 1 + 1, 3, none⟩ = false := Lib.frozen_of_heap hres 3
            have hbel := H.bel
            have HT := Lib.hid (kid_told (K := K) hres hbel)
            clear HH hRd H h20 hrow
            go_wp2
            refine bodyPost_ret (results_cell1 rfl _ _ (w.heap.size + 1 + 1) _ _ _ _ rfl HT.out.1 Try.underlying52 rfl (by kernel_rfl)) rfl ?_
            exact ⟨rfl, HT.out.2⟩
  · obtain rfl : l = [] := List.eq_nil_of_length_eq_zero (by omega)
    have hK0 : K = (0, 0, 0, 0) := HK.out
    subst hK0
    have h0z : ¬ (([] : List Nd).length : Int) > 0 := by decide
    have h0y : ¬ (0 : Int) < (([] : List Nd).length : Int) := by decide
    clear hlev HKK HK k4 h0z h0y h0 hr hR hl
    simp only [List.length_nil] at HH0 s0 ⊢
    go_enter Try.func77, Try.ntmps77
    go_wp2_with fail
    generalize ((w.alloc (.cells #[.slice A 0 c, .int .i64 room] 27)).alloc (.cells #[.int .i64 r.1, .int .i64 r.2.1, .int .i64 r.2.2.1, .int .i64 r.2.2.2.1, .int .i64 r.2.2.2.2] 107)).alloc (.cells #[.int .i64 0, .int .i64 0, .int .i64 0, .int .i64 0] 52) = w0 at *
    go_loopw [5, 7] (fun v i wr => v = .slice none 0 0 ∧ i = .int .i64 0 ∧ wr = w0) (fun _ i _ => 0)
    case atStart => exact ⟨rfl, rfl, rfl⟩
    case round =>
      obtain ⟨rfl, rfl, rfl⟩ := hrel
      have H := HH0.out
      have hgs := H.size
      have hrow := heap_alloc_new wr (.cells #[.int .i64 0, .int .i64 0, .int .i64 0, .int .i64 0] 52 (0, 0))
      have hba : Below wr.heap.size wr (wr.alloc (.cells #[.int .i64 0, .int .i64 0, .int .i64 0, .int .i64 0] 52)) := (Below.refl _ _).alloc (Nat.le_refl _) _
      have H2 := H.below (hba.mono hgs)
      clear H HH0 hba
      go_wp2_with fail
      generalize wr.alloc (.cells #[.int .i64 0, .int .i64 0, .int .i64 0, .int .i64 0] 52) = wx at *
      generalize wr.heap.size = g at *
      clear s0
      go_loopw [9] (fun i wq => i = .int .i64 0 ∧ wq = wx) (fun i _ => 0)
      case atStart => exact ⟨rfl, rfl⟩
      case round =>
        obtain ⟨rfl, rfl⟩ := hrel
        have c0 : wr.cell? ⟨g, 0, none⟩ = some (.int .i64 0) := by rw [Lib.cell_of_heap hrow]; rfl
        have c1 : wr.cell? ⟨g, 1, none⟩ = some (.int .i64 0) := by rw [Lib.cell_of_heap hrow]; rfl
        have c2 : wr.cell? ⟨g, 2, none⟩ = some (.int .i64 0) := by rw [Lib.cell_of_heap hrow]; rfl
        have c3 : wr.cell? ⟨g, 3, none⟩ = some (.int .i64 0) := by rw [Lib.cell_of_heap hrow]; rfl
        have hres := H2.res
        have t0 : wr.cell? ⟨w.heap.size + 1 + 1, 0, none⟩ = some (.int .i64 0) := by rw [Lib.cell_of_heap hres]; rfl
        have t1 : wr.cell? ⟨w.heap.size + 1 + 1, 1, none⟩ = some (.int .i64 0) := by rw [Lib.cell_of_heap hres]; rfl
        have t2 : wr.cell? ⟨w.heap.size + 1 + 1, 2, none⟩ = some (.int .i64 0) := by rw [Lib.cell_of_heap hres]; rfl
        have t3 : wr.cell? ⟨w.heap.size + 1 + 1, 3, none⟩ = some (.int .i64 0) := by rw [Lib.cell_of_heap hres]; rfl
        have f0 : wr.frozen? ⟨w.heap.size + 1 + 1, 0, none⟩ = false := Lib.frozen_of_heap hres 0
        have f1 : wr.frozen? ⟨w.heap.size + 1 + 1, 1, none⟩ = false := Lib.frozen_of_heap hres 1
        have f2 : wr.frozen? ⟨w.heap.size + 1 + 1, 2, none⟩ = false := Lib.frozen_of_heap hres 2
        have f3 : wr.frozen? ⟨w.heap.size + 1 + 1, 3, none⟩ = false := Lib.frozen_of_heap hres 3
        have HT := Lib.hid (kid_told (K := (0, 0, 0, 0)) hres H2.bel)
        clear H2 hrow
        go_wp2
        refine bodyPost_ret (results_cell1 rfl _ _ (w.heap.size + 1 + 1) _ _ _ _ rfl HT.out.1 Try.underlying52 rfl (by kernel_rfl)) rfl ?_
        exact ⟨rfl, HT.out.2⟩
end Go.Proofs.Ytikgnjcjbjafaaa
namespace Go.Proofs.Ytikgnjcjbjafaaa
set_option linter.unusedVariables false
set_option linter.unusedSimpArgs false
open Go.RowKit Go.Sort

def dead5 : Raw5 := (0, 0, 0, 0, 0)
/-- five numbers lie here -/
def R5At (w : World) (b o : Nat) (r : Raw5) : Prop := w.cell? ⟨b, o, none⟩ = some (.int .i64 r.1) ∧ w.cell? ⟨b, o + 1, none⟩ = some (.int .i64 r.2.1) ∧ w.cell? ⟨b, o + 2, none⟩ = some (.int .i64 r.2.2.1) ∧ w.cell? ⟨b, o + 3, none⟩ = some (.int .i64 r.2.2.2.1) ∧ w.cell? ⟨b, o + 4, none⟩ = some (.int .i64 r.2.2.2.2)
theorem R5At.below {w w' : World} {b o B : Nat} {r : Raw5} (h : R5At w b o r) (hb : Below B w w') (hx : b < B) : R5At w' b o r := by
  obtain ⟨h0, h1, h2, h3, h4⟩ := h
  exact ⟨(hb.cell (p := ⟨b, o, none⟩) hx).trans h0, (hb.cell (p := ⟨b, o + 1, none⟩) hx).trans h1, (hb.cell (p := ⟨b, o + 2, none⟩) hx).trans h2, (hb.cell (p := ⟨b, o + 3, none⟩) hx).trans h3, (hb.cell (p := ⟨b, o + 4, none⟩) hx).trans h4⟩
/-- The slice at A reads as raw numbers, five by five. -/
def RdR (w : World) (B : Nat) (A : Option Addr) (l : List Raw5) : Prop :=
  ∀ j, j < l.length → ∃ b off, A = some ⟨b, off, none⟩ ∧ b < B ∧ R5At w b (off + j * 5) (l.getD j dead5)
theorem RdR.below {w w' : World} {B B' : Nat} {A : Option Addr} {l : List Raw5} (h : RdR w B A l) (hb : Below B' w w') (hB : B ≤ B') : RdR w' B A l := fun j hj => by
  obtain ⟨b, off, e, hlt, h0⟩ := h j hj
  exact ⟨b, off, e, hlt, h0.below hb (Nat.lt_of_lt_of_le hlt hB)⟩
/-- What is known within Store's loop. -/
structure StAt (w wr : World) (g : Nat) (R : Int) (m : List Nd) (B : Option Addr) (d : Nat) : Prop where
  res : wr.heap[w.heap.size]? = some (.cells #[.slice none 0 0, .int .i64 0] 27 (0, 0))
  row : wr.heap[g]? = some (.cells #[.slice B m.length d, .int .i64 R] 27 (0, 0))
  rd : RdN wr wr.heap.size B m
  cap : m.length ≤ d
  bel : Below w.heap.size w wr
  lo : w.heap.size + 1 ≤ g
theorem storeTo_succ (room : Int) (raw : List Raw5) (n : Nat) : storeTo room raw (n + 1) = (intern6 (storeTo room raw n) room (kids6 (storeTo room raw n) (raw.getD n dead5))).1 := rfl
theorem StAt.below {w wr w' : World} {g : Nat} {R : Int} {m : List Nd} {B : Option Addr} {d : Nat} (h : StAt w wr g R m B d) (hb : Below wr.heap.size wr w') : StAt w w' g R m B d :=
  ⟨(hb.block _ (lt_heap6 h.res)).trans h.res, (hb.block _ (lt_heap6 h.row)).trans h.row, (h.rd.below hb (Nat.le_refl _)).more hb.size, h.cap, Qt.more h.bel h.bel.size hb, h.lo⟩
/-- another store is told in the box -/
theorem StAt.put {w wr : World} {g : Nat} {R : Int} {m l : List Nd} {B A : Option Addr} {d c : Nat} (h : StAt w wr g R m B d) (hR : RdN wr wr.heap.size A l) (hc : l.length ≤ c) :
    StAt w ((wr.setCell ⟨g, 0, none⟩ (.slice A l.length c)).setCell ⟨g, 1, none⟩ (.int .i64 R)) g R l A c := by
  have hlo := h.lo
  have hk : ∀ q, q < g → ((wr.setCell ⟨g, 0, none⟩ (.slice A l.length c)).setCell ⟨g, 1, none⟩ (.int .i64 R)).heap[q]? = wr.heap[q]? := fun q hq => by
    rw [Below.heap_setCell _ _ _ _ (by simp; omega), Below.heap_setCell _ _ _ _ (by simp; omega)]
  exact ⟨(hk _ (by omega)).trans h.res, set_row h.row, (rdN_told hR h.row).more (by simp [World.setCell]), hc, (h.bel.setCell (by show _ ≤ g; omega) _).setCell (by show _ ≤ g; omega) _, hlo⟩

set_option maxHeartbeats 4000000 in
set_option maxRecDepth 100000 in
theorem store6_any (A : Option Addr) (raw : List Raw5) (c : Nat) (room : Int) (w : World) (hR : RdR w w.heap.size A raw) (hl : raw.length ≤ 9223372036854775807) (hI : I64 room) (hF : ∀ j, j < raw.length → Fine5 (raw.getD j dead5)) :
    Calls Try.prog 40 #[.int .i64 room, .slice A raw.length c] w (StoreR (store6 room raw) (2 + pick6 room 60) w) := by
  have hp := pick_any room 60 w hI.1 hI.2 (by decide) (by decide)
  have hpb := pickI_bd room 60 (by decide)
  obtain ⟨R, hRR⟩ : ∃ R, R = 2 + pickI room 60 := ⟨_, rfl⟩
  have hR2 : 2 ≤ R ∧ R ≤ 100000 := by omega
  have hst : store6 room raw = storeTo R raw (min raw.length 40) := by rw [hRR]; rfl
  have hto := fun k (hk : k ≤ 40) => storeTo_right hR2.1 hR2.2 raw k hk
  have hnew := fun W => refNew6_any R W
  have e1 : newL R = new6 := by unfold newL; rw [if_pos hR2]
  have e2 : newRoom R = R := by unfold newRoom; rw [if_pos hR2]
  rw [e1, e2] at hnew
  rw [show (2 + pick6 room 60) = R from hRR.symm]
  obtain ⟨z, hz⟩ : ∃ z, z = store6 room raw := ⟨_, rfl⟩
  rw [← hz] at hst ⊢
  have HZ := Lib.hid hst
  have HT := Lib.hid hto
  have HR := Lib.hid hR
  have HFF := Lib.hid hF
  clear hz hst hto e1 e2 hR hF
  have hRa : 2 + pickI room 60 = R := hRR.symm
  clear hRR
  have hrow0 := Lib.hid (heap_alloc_new w (.cells #[.slice none 0 0, .int .i64 0] 27 (0, 0)))
  have hb0 : Hid (Below w.heap.size w (w.alloc (.cells #[.slice none 0 0, .int .i64 0] 27))) := (Below.refl _ _).alloc (Nat.le_refl _) _
  clear hp
  have hp := fun W => pick_any room 60 W hI.1 hI.2 (by decide) (by decide)
  go_enter Try.func40, Try.ntmps40
  go_wp2_with fail
  generalize w.alloc (.cells #[.slice none 0 0, .int .i64 0] 27) = w0 at *
  refine (hp _).mono ?_
  rintro e w' ⟨rfl, rfl⟩
  clear hp
  go_wp2_with fail
  refine (hnew _).mono ?_
  rintro e w1 ⟨v, rfl, ⟨B0, d0, rfl, hd0, hN⟩, hb1⟩
  have h00 : StAt w (w1.alloc (.cells #[.slice B0 new6.length d0, .int .i64 R] 27)) w1.heap.size R new6 B0 d0 := by
    have hba : Below w1.heap.size w1 (w1.alloc (.cells #[.slice B0 new6.length d0, .int .i64 R] 27)) := (Below.refl _ _).alloc (Nat.le_refl _) _
    have hs0 := lt_heap6 hrow0.out
    have hr1 := (hb1.block _ hs0).trans hrow0.out
    have hs1 := lt_heap6 hr1
    have hbw : Below w.heap.size w w1 := Qt.more hb0.out (by omega) hb1
    exact ⟨(hba.block _ hs1).trans hr1, heap_alloc_new w1 _, (RdN.below hN hba (Nat.le_refl _)).more hba.size, hd0, Qt.more hbw hbw.size hba, hs1⟩
  have H00 := Lib.hid (And.intro h00 (show new6 = storeTo R raw 0 from rfl))
  clear h00 hN hb1 hb0 hrow0 hnew hRa
  obtain ⟨m0, hm0⟩ : ∃ m0, m0 = new6 := ⟨_, rfl⟩
  rw [← hm0] at H00 hd0 ⊢
  clear hm0
  go_wp2_with fail
  generalize w1.alloc (.cells #[.slice B0 m0.length d0, .int .i64 R] 27) = wx at *
  generalize w1.heap.size = g at *
  go_loopw [6] (fun i wr => ∃ (k : Nat) (m : List Nd) (B : Option Addr) (d : Nat), k ≤ 40 ∧ k ≤ raw.length ∧ i = .int .i64 k ∧ Hid (StAt w wr g R m B d ∧ m = storeTo R raw k)) (fun i _ => 40 - (intOf i).toNat)
  case atStart => exact ⟨0, m0, B0, d0, by omega, Nat.zero_le _, rfl, H00⟩
  case round =>
    obtain ⟨k, m, B, d, hk40, hkl, rfl, HH⟩ := hrel
    have H := HH.out.1
    have hrow := H.row
    have c0 : wr.cell? ⟨g, 0, none⟩ = some (.slice B m.length d) := by rw [Lib.cell_of_heap hrow]; rfl
    have c1 : wr.cell? ⟨g, 1, none⟩ = some (.int .i64 R) := by rw [Lib.cell_of_heap hrow]; rfl
    by_cases hlt : k < raw.length ∧ k < 40
    · obtain ⟨hlt1, hlt2⟩ := hlt
      have hz1 : (k : Int) < (raw.length : Int) := by omega
      have hz2 : (k : Int) < 40 := by omega
      have hRaw := HR.out k hlt1
      obtain ⟨b, off, rfl, hbB, x0, x1, x2, x3, x4⟩ := hRaw
      have hfine := HFF.out k hlt1
      have hnext := storeTo_succ R raw k
      rw [← HH.out.2] at hnext
      have hm6 := HT.out k hk40
      rw [← HH.out.2] at hm6
      generalize raw.getD k dead5 = r at *
      have hkids := fun W (hb : Below wr.heap.size wr W) => kids6_any B m d R r W ((H.rd.below hb (Nat.le_refl _)).more hb.size) (by omega) hfine
      have hint := fun W (hb : Below wr.heap.size wr W) => refIntern6_any B m d R (kids6 m r) W ((H.rd.below hb (Nat.le_refl _)).more hb.size) (by omega) H.cap (fun i hi => by have := right_bd hm6.1 i hi; omega)
      unfold storeV rawV kidsV at hkids
      unfold storeV kidsV at hint
      generalize kids6 m r = K at *
      obtain ⟨p, hp⟩ : ∃ p, p = intern6 m R K := ⟨_, rfl⟩
      rw [← hp] at hint hnext
      have HNX := Lib.hid hnext
      have q0 := Qt.cell_in (Qt.keep H.bel x0)
      have q1 := Qt.cell_in (Qt.keep H.bel x1)
      have q2 := Qt.cell_in (Qt.keep H.bel x2)
      have q3 := Qt.cell_in (Qt.keep H.bel x3)
      have q4 := Qt.cell_in (Qt.keep H.bel x4)
      have q5 := Qt.cell_in c0
      have q6 := Qt.cell_in c1
      clear x0 x1 x2 x3 x4 hfine hm6 hp hnext HH c0 c1
      go_wp2
      refine Qt.region_call_tree 7 (.only 8 (.pure 9 (.pure 10 (.pure 11 (.only 12 .done))))) (by kernel_rfl) (by kernel_rfl) rfl rfl rfl Try.func76 (by kernel_rfl) (by kernel_rfl) rfl ?_
      simp only [List.take_succ_cons, List.take_zero, List.drop_succ_cons, List.drop_zero]
      repeat (go_big_quiet_step (first | (go_at_call 77; exact Qt.at_call' hkids)))
      refine wpQuiet_nil ?_
      intro w3 hb3
      have hp := hint w3 hb3
      simp only [List.map_toArray, List.map_cons, List.map_nil]
      show Calls Try.prog _ #[.agg #[.slice B m.length d, .int .i64 R], .agg #[.int .i64 K.1, .int .i64 K.2.1, .int .i64 K.2.2.1, .int .i64 K.2.2.2]] w3 _
      refine hp.mono ?_
      rintro e w4 ⟨v, rfl, ⟨A4, c4, rfl, hc4, hR4⟩, hb4⟩
      have H4 := (H.below hb3).below hb4
      have hrow4 := H4.row
      have g0 : w4.cell? ⟨g, 0, none⟩ = some (.slice B m.length d) := by rw [Lib.cell_of_heap hrow4]; rfl
      have g1 : w4.cell? ⟨g, 1, none⟩ = some (.int .i64 R) := by rw [Lib.cell_of_heap hrow4]; rfl
      have f0 := Lib.frozen_of_heap hrow4 0
      have f1 := Lib.frozen_of_heap hrow4 1
      have HN := Lib.hid (And.intro (H4.put hR4 hc4) HNX.out.symm)
      clear hp hint hkids q0 q1 q2 q3 q4 q5 q6 hrow hrow4 H4 H hb3 hb4 hR4
      refine ⟨_, rfl, ?_⟩
      simp only [Act.put, List.setIfInBounds_toArray, List.set_cons_succ, List.set_cons_zero]
      refine ⟨_, rfl, ?_⟩
      go_wp2_with fail
      refine ⟨rfl, ?_⟩
      refine ⟨_, some 30, .agg #[.slice A4 p.1.length c4, .int .i64 R], rfl, rfl, ⟨rfl, fun _ => by first | rfl | (simp only [execOp]; go_simp)⟩, ?_⟩
      simp only [Act.put, List.setIfInBounds_toArray, List.set_cons_succ, List.set_cons_zero]
      refine ⟨_, some 31, .int .i64 p.2.1, rfl, rfl, ⟨rfl, fun _ => by first | rfl | (simp only [execOp]; go_simp)⟩, ?_⟩
      simp only [Act.put, List.setIfInBounds_toArray, List.set_cons_succ, List.set_cons_zero]
      refine ⟨_, some 32, .int .i64 p.2.2, rfl, rfl, ⟨rfl, fun _ => by first | rfl | (simp only [execOp]; go_simp)⟩, ?_⟩
      simp only [Act.put, List.setIfInBounds_toArray, List.set_cons_succ, List.set_cons_zero]
      refine ⟨_, rfl, ?_⟩
      go_wp2_with fail
      refine ⟨rfl, ?_⟩
      simp only [Qt.treeW]
      go_wp2
      go_roundw
      case measure => simp [intOf]; omega
      case rel => exact ⟨k + 1, p.1, A4, c4, by omega, by omega, by go_num, HN⟩
    · have hkm : k = min raw.length 40 := by omega
      have hzm : z = m := by rw [HZ.out, ← hkm, HH.out.2]
      subst hzm
      have hres := H.res
      have t0 : wr.cell? ⟨w.heap.size, 0, none⟩ = some (.slice none 0 0) := by rw [Lib.cell_of_heap hres]; rfl
      have t1 : wr.cell? ⟨w.heap.size, 1, none⟩ = some (.int .i64 0) := by rw [Lib.cell_of_heap hres]; rfl
      have f0 := Lib.frozen_of_heap hres 0
      have f1 := Lib.frozen_of_heap hres 1
      have hfin : ((wr.setCell ⟨w.heap.size, 0, none⟩ (.slice B z.length d)).setCell ⟨w.heap.size, 1, none⟩ (.int .i64 R)).heap[w.heap.size]? = some (.cells #[.slice B z.length d, .int .i64 R] 27 (0, 0)) ∧ StoreR z R w (.returned (.agg #[.slice B z.length d, .int .i64 R])) ((wr.setCell ⟨w.heap.size, 0, none⟩ (.slice B z.length d)).setCell ⟨w.heap.size, 1, none⟩ (.int .i64 R)) := by
        refine ⟨set_row hres, _, rfl, ⟨B, d, rfl, H.cap, (rdN_told H.rd hres).more (by simp [World.setCell])⟩, ?_⟩
        exact (H.bel.setCell (Nat.le_refl _) _).setCell (Nat.le_refl _) _
      have HFI := Lib.hid hfin
      have hz1 : (¬ (k : Int) < (raw.length : Int)) ∨ ((k : Int) < (raw.length : Int) ∧ ¬ (k : Int) < 40) := by omega
      clear HH H hrow hres hfin HZ hkm hlt
      rcases hz1 with hz1 | ⟨hz1, hz2⟩
      · go_wp2
        exact bodyPost_ret (results_cell1 rfl _ _ w.heap.size _ _ _ _ rfl HFI.out.1 Try.underlying27 rfl (by kernel_rfl)) rfl HFI.out.2
      · go_wp2
        exact bodyPost_ret (results_cell1 rfl _ _ w.heap.size _ _ _ _ rfl HFI.out.1 Try.underlying27 rfl (by kernel_rfl)) rfl HFI.out.2
end Go.Proofs.Ytikgnjcjbjafaaa
namespace Go.Proofs.Ytikgnjcjbjafaaa
set_option linter.unusedVariables false
open Go.ChangeShapes Go.WideShapes Go.ChangeAt Go.RowKit Go.Deep

theorem i64_wf6 {a : Int} (h : (Lit.int .i64 a).wf = true) : I64 a := by
  have : IntKind.i64.min ≤ a ∧ a ≤ IntKind.i64.max := by simpa [Lit.wf] using h
  simpa [I64, IntKind.min, IntKind.max, IntKind.signed, IntKind.bits] using this

section
variable {H : Type} {enc : TypeId × Value → H} {w : World} {base : Nat} {spare : Nat → Bool} {held : Bool} {P : Program}
theorem exists_list6 {α : Type} (d : α) {n : Nat} {Q : Nat → α → Prop} (h : ∀ i, i < n → ∃ p, Q i p) : ∃ l : List α, l.length = n ∧ ∀ i, i < n → Q i (l.getD i d) := by
  induction n with
  | zero => exact ⟨[], rfl, fun i hi => absurd hi (Nat.not_lt_zero i)⟩
  | succ n ih =>
    obtain ⟨l, hl, hq⟩ := ih fun i hi => h i (by omega)
    obtain ⟨p, hp⟩ := h n (by omega)
    refine ⟨l ++ [p], by simp [hl], fun i hi => ?_⟩
    by_cases hin : i < n
    · rw [List.getD_eq_getElem?_getD, List.getElem?_append_left (by omega), ← List.getD_eq_getElem?_getD]
      exact hq i hin
    · have : i = n := by omega
      subst this
      rw [List.getD_eq_getElem?_getD, List.getElem?_append_right (by omega), hl]
      simpa using hp
/-- an array of numbers -/
theorem ints_in {t e : TypeId} {n fuel : Nat} {cs : List Value} {x : DataW H × List MemPlace} (ht : P.underlying t = some (.array n e)) (he : P.underlying e = some (.int .i64)) (h1 : P.cellsOf e = 1) (hn : P.cellsOf t = n)
    (h : DataW.trod enc P w base spare held fuel t cs = some x) : ∃ l : List Int, l.length = n ∧ cs = l.map (Value.int .i64) ∧ ∀ i, i < n → I64 (l.getD i 0) := by
  obtain ⟨xs, m, _, _, hlen, hxl, hx⟩ := DataW.trod_array ht h
  rw [hn] at hlen
  have hq : ∀ i, i < n → ∃ u : Int, cs[i]? = some (.int .i64 u) ∧ I64 u := by
    intro i hi
    have h2 := hx i hi
    rw [h1, List.getElem?_eq_getElem (by omega)] at h2
    obtain ⟨u, hu, _, wu⟩ := DataW.trod_int he h2
    refine ⟨u, ?_, i64_wf6 wu⟩
    have h3 : ((cs.drop (i * 1)).take 1)[0]? = some (.int .i64 u) := by rw [hu]; rfl
    simpa using h3
  obtain ⟨l, hl, hlq⟩ := exists_list6 0 hq
  refine ⟨l, hl, ?_, fun i hi => (hlq i hi).2⟩
  refine List.ext_getElem? fun i => ?_
  by_cases hi : i < n
  · rw [(hlq i hi).1, List.getElem?_map, List.getElem?_eq_getElem (by omega), List.getD_eq_getElem?_getD, List.getElem?_eq_getElem (by omega)]
    rfl
  · rw [List.getElem?_eq_none (by omega), List.getElem?_eq_none (by rw [List.length_map]; omega)]
/-- a slice whose elements take some cells each -/
theorem els_in {α : Type} (dec : α → List Value) (d : α) (Q : α → Prop) (n : Nat) (hn0 : 0 < n) {t e : TypeId} {fuel : Nat} {a0 : Option Addr} {len0 cap0 : Nat} {x : DataW H × List MemPlace} (hdec : ∀ a, (dec a).length = n) (ht : P.underlying t = some (.slice e)) (hn : P.cellsOf e = n)
    (he : ∀ fuel cs (y : DataW H × List MemPlace), DataW.trod enc P w base spare held fuel e cs = some y → ∃ a, cs = dec a ∧ Q a)
    (h : DataW.trod enc P w base spare held fuel t [.slice a0 len0 cap0] = some x) :
    ∃ l : List α, l.length = len0 ∧ len0 ≤ cap0 ∧ cap0 ≤ maxLen ∧ (∀ j, j < l.length → ∃ b off, a0 = some ⟨b, off, none⟩ ∧ b < w.heap.size ∧ ∀ i, i < n → w.cell? ⟨b, off + j * n + i, none⟩ = (dec (l.getD j d))[i]?) ∧ ∀ j, j < l.length → Q (l.getD j d) := by
  rcases open_slice ht h with ⟨hcs, _⟩ | ⟨a, len, cap, m, k, D, Pl, hcs, hb, hl, hm, hmm, _, hi⟩
  · simp at hcs
    obtain ⟨rfl, rfl, rfl⟩ := hcs
    exact ⟨[], rfl, Nat.le_refl _, by simp [maxLen], fun j hj => absurd hj (Nat.not_lt_zero j), fun j hj => absurd hj (Nat.not_lt_zero j)⟩
  · simp at hcs
    obtain ⟨rfl, rfl, rfl⟩ := hcs
    have hlm : len0 ≤ m := by rw [hmm]; split <;> omega
    have hq : ∀ i, i < len0 → ∃ p : α, (∀ q, q < n → w.cell? ((a.add (i * n)).add q) = (dec p)[q]?) ∧ Q p := by
      intro i hi'
      obtain ⟨cs', hc, ht'⟩ := hi i (by omega)
      rw [hn] at hc
      obtain ⟨p, rfl, hp⟩ := he _ _ _ ht'
      obtain ⟨_, _, hat⟩ := World.cells?_some hc
      exact ⟨p, fun q hq => hat q (by omega), hp⟩
    obtain ⟨l, hll, hlq⟩ := exists_list6 d hq
    refine ⟨l, hll, hl, hm, fun j hj => ?_, fun j hj => (hlq j (by omega)).2⟩
    obtain ⟨b, off, spot⟩ := a
    have hc := (hlq j (by omega)).1
    have h0 := hc 0 hn0
    rw [List.getElem?_eq_getElem (by rw [hdec]; exact hn0)] at h0
    have h00 := (hlq 0 (by omega)).1 0 hn0
    rw [List.getElem?_eq_getElem (by rw [hdec]; exact hn0)] at h00
    have hspot : spot = none := by simpa [Addr.add] using World.cell?_spot h00
    subst hspot
    refine ⟨b, off, rfl, ?_, fun i hi => ?_⟩
    · rw [Addr.add_lit] at h0
      exact block_lt_of_cell h0
    · have := hc i hi
      rw [Addr.add_lit, Addr.add_lit] at this
      exact this
/-- five numbers -/
def dec5 (r : Raw5) : List Value := [.int .i64 r.1, .int .i64 r.2.1, .int .i64 r.2.2.1, .int .i64 r.2.2.2.1, .int .i64 r.2.2.2.2]
def dec4 (k : Kd) : List Value := [.int .i64 k.1, .int .i64 k.2.1, .int .i64 k.2.2.1, .int .i64 k.2.2.2]
def Fine4 (k : Kd) : Prop := I64 k.1 ∧ I64 k.2.1 ∧ I64 k.2.2.1 ∧ I64 k.2.2.2
def FineN (x : Nd) : Prop := I64 x.1 ∧ Fine4 x.2.1 ∧ I64 x.2.2
theorem five_in {t e : TypeId} {fuel : Nat} {cs : List Value} {x : DataW H × List MemPlace} (ht : P.underlying t = some (.array 5 e)) (he : P.underlying e = some (.int .i64)) (h1 : P.cellsOf e = 1) (hn : P.cellsOf t = 5)
    (h : DataW.trod enc P w base spare held fuel t cs = some x) : ∃ r : Raw5, cs = dec5 r ∧ Fine5 r := by
  obtain ⟨l, hl, rfl, hI⟩ := ints_in ht he h1 hn h
  match l, hl with
  | [a, b, c, d, e], _ => exact ⟨(a, b, c, d, e), rfl, hI 0 (by decide), hI 1 (by decide), hI 2 (by decide), hI 3 (by decide), hI 4 (by decide)⟩
theorem four_in {t e : TypeId} {fuel : Nat} {cs : List Value} {x : DataW H × List MemPlace} (ht : P.underlying t = some (.array 4 e)) (he : P.underlying e = some (.int .i64)) (h1 : P.cellsOf e = 1) (hn : P.cellsOf t = 4)
    (h : DataW.trod enc P w base spare held fuel t cs = some x) : ∃ k : Kd, cs = dec4 k ∧ Fine4 k := by
  obtain ⟨l, hl, rfl, hI⟩ := ints_in ht he h1 hn h
  match l, hl with
  | [a, b, c, d], _ => exact ⟨(a, b, c, d), rfl, hI 0 (by decide), hI 1 (by decide), hI 2 (by decide), hI 3 (by decide)⟩
/-- a node: a number, four, a number -/
theorem node_in {t e t4 : TypeId} {f0 f1 f2 : Field} {fuel : Nat} {cs : List Value} {x : DataW H × List MemPlace} (ht : P.underlying t = some (.struct #[f0, f1, f2])) (e0 : f0.type = e) (e1 : f1.type = t4) (e2 : f2.type = e) (o0 : f0.offset = 0) (o1 : f1.offset = 1) (o2 : f2.offset = 5)
    (h4 : P.underlying t4 = some (.array 4 e)) (he : P.underlying e = some (.int .i64)) (h1 : P.cellsOf e = 1) (hn4 : P.cellsOf t4 = 4) (hn : P.cellsOf t = 6)
    (h : DataW.trod enc P w base spare held fuel t cs = some x) : ∃ a : Nd, cs = cellsN a ∧ FineN a := by
  obtain ⟨y0, y1, y2, m, _, hlen, k0, k1, k2⟩ := trod_struct3 ht h
  rw [hn] at hlen
  rw [e0, o0, h1] at k0
  rw [e1, o1, hn4] at k1
  rw [e2, o2, h1] at k2
  obtain ⟨a, hu, _, wu⟩ := DataW.trod_int he k0
  obtain ⟨k, hk, fk⟩ := four_in h4 he h1 hn4 k1
  obtain ⟨c, hv, _, wv⟩ := DataW.trod_int he k2
  match cs, hlen with
  | [x0, x1, x2, x3, x4, x5], _ =>
    refine ⟨(a, k, c), ?_, i64_wf6 wu, fk, i64_wf6 wv⟩
    simp [dec4] at hu hk hv
    simp [cellsN, hu, hk, hv]
end
theorem raws_in {H : Type} {enc : TypeId × Value → H} {w : World} {base : Nat} {spare : Nat → Bool} {held : Bool} {fuel : Nat} {a0 : Option Addr} {len0 cap0 : Nat} {x : DataW H × List MemPlace}
    (h : DataW.trod enc Try.prog w base spare held fuel 22 [.slice a0 len0 cap0] = some x) : ∃ l : List Raw5, l.length = len0 ∧ len0 ≤ cap0 ∧ cap0 ≤ maxLen ∧ RdR w w.heap.size a0 l ∧ ∀ j, j < l.length → Fine5 (l.getD j dead5) := by
  obtain ⟨l, h1, h2, h3, h4, h5⟩ := els_in dec5 dead5 Fine5 5 (by decide) (fun _ => rfl) Try.underlying22 (by kernel_rfl) (fun _ _ _ hy => five_in Try.underlying107 Try.underlying3 (by kernel_rfl) (by kernel_rfl) hy) h
  refine ⟨l, h1, h2, h3, fun j hj => ?_, h5⟩
  obtain ⟨b, off, e, hb, hc⟩ := h4 j hj
  exact ⟨b, off, e, hb, hc 0 (by decide), hc 1 (by decide), hc 2 (by decide), hc 3 (by decide), hc 4 (by decide)⟩
theorem nodes_in {H : Type} {enc : TypeId × Value → H} {w : World} {base : Nat} {spare : Nat → Bool} {held : Bool} {fuel : Nat} {a0 : Option Addr} {len0 cap0 : Nat} {x : DataW H × List MemPlace}
    (h : DataW.trod enc Try.prog w base spare held fuel 25 [.slice a0 len0 cap0] = some x) : ∃ l : List Nd, l.length = len0 ∧ len0 ≤ cap0 ∧ cap0 ≤ maxLen ∧ RdN w w.heap.size a0 l ∧ ∀ j, j < l.length → FineN (l.getD j deadN) := by
  obtain ⟨l, h1, h2, h3, h4, h5⟩ := els_in cellsN deadN FineN 6 (by decide) (fun _ => rfl) Try.underlying25 (by kernel_rfl) (fun _ _ _ hy => node_in Try.underlying54 rfl rfl rfl rfl rfl rfl Try.underlying52 Try.underlying3 (by kernel_rfl) (by kernel_rfl) (by kernel_rfl) hy) h
  refine ⟨l, h1, h2, h3, fun j hj => ?_, h5⟩
  obtain ⟨b, off, e, hb, hc⟩ := h4 j hj
  exact ⟨b, off, e, hb, hc 0 (by decide), hc 1 (by decide), hc 2 (by decide), hc 3 (by decide), hc 4 (by decide), hc 5 (by decide)⟩
end Go.Proofs.Ytikgnjcjbjafaaa
namespace Go.Proofs.Ytikgnjcjbjafaaa
set_option maxRecDepth 100000
set_option linter.unusedVariables false
open Go.ChangeShapes Go.WideShapes Go.ChangeAt Go.RowKit Go.Deep
theorem own : ownKnob Try.prog.godebug = none := by kernel_rfl
theorem laidOut : laidOutB Try.prog = true := by kernel_rfl
section
variable {H : Type} {enc : TypeId × Value → H} {W : World} {base : Nat} {spare : Nat → Bool} {held : Bool} {P : Program}
theorem okWide_arr6 {t e : TypeId} {n b0 : Nat} {r : Reach} {v : Value} (ht : P.underlying t = some (.array n e)) (h : Value.okWide P W r b0 t v) : ∃ xs : Array Value, v = .agg xs := by
  simp only [Value.okWide, ht] at h
  obtain ⟨cs, h1, h2, _⟩ := h
  exact ⟨cs, h1⟩
theorem five_val {t e : TypeId} {b0 : Nat} {r : Reach} {v : Value} {d : DataW H} {ps : List MemPlace} (ht : P.underlying t = some (.array 5 e)) (he : P.underlying e = some (.int .i64)) (h1 : P.cellsOf e = 1) (hn : P.cellsOf t = 5)
    (hv : Value.okWide P W r b0 t v) (h : DataW.Trod enc P W base spare held t v d ps) : ∃ r : Raw5, v = rawV r ∧ Fine5 r := by
  obtain ⟨xs, rfl⟩ := okWide_arr6 ht hv
  obtain ⟨fuel, hf⟩ := h
  obtain ⟨r, hr, fr⟩ := five_in ht he h1 hn hf
  refine ⟨r, ?_, fr⟩
  have hx : xs = (dec5 r).toArray := by
    have hr' : xs.toList = dec5 r := hr
    rw [← hr']
  rw [hx]
  rfl
theorem four_val {t e : TypeId} {b0 : Nat} {r : Reach} {v : Value} {d : DataW H} {ps : List MemPlace} (ht : P.underlying t = some (.array 4 e)) (he : P.underlying e = some (.int .i64)) (h1 : P.cellsOf e = 1) (hn : P.cellsOf t = 4)
    (hv : Value.okWide P W r b0 t v) (h : DataW.Trod enc P W base spare held t v d ps) : ∃ k : Kd, v = kidsV k ∧ Fine4 k := by
  obtain ⟨xs, rfl⟩ := okWide_arr6 ht hv
  obtain ⟨fuel, hf⟩ := h
  obtain ⟨r, hr, fr⟩ := four_in ht he h1 hn hf
  refine ⟨r, ?_, fr⟩
  have hx : xs = (dec4 r).toArray := by
    have hr' : xs.toList = dec4 r := hr
    rw [← hr']
  rw [hx]
  rfl
end
end Go.Proofs.Ytikgnjcjbjafaaa
namespace Go.Proofs.Ytikgnjcjbjafaaa
set_option linter.unusedVariables false
set_option linter.unusedSimpArgs false

theorem Right6.more {l : List Nd} {room room' : Int} (h : Right6 l room) (h1 : (l.length : Int) ≤ room') (h2 : 2 ≤ room') (h3 : room' ≤ 100000) : Right6 l room' :=
  ⟨h2, h3, h.two, h1, h.dead, h.live, h.fits⟩
theorem Right6.small {l : List Nd} {room : Int} (h : Right6 l room) : l.length ≤ 100000 := by
  have := h.len
  have := h.room100
  omega
/-- from a level that stands already -/
theorem empty_from {l : List Nd} {room : Int} (h : Right6 l room) {i e : Nat} (hi : i ≤ 42) (hE : Emp l i e) : ∀ d : Nat, i + d ≤ 42 → (l.length : Int) + d ≤ room → ∃ (m : List Nd) (n : Nat), emptyTo l room (i + d) = (m, (n : Int), 0) ∧ Grows l m ∧ Right6 m room ∧ Emp m (i + d) n ∧ m.length ≤ l.length + d := by
  intro d
  induction d with
  | zero => intro _ _; exact ⟨l, e, empty_had h i e hi hE, Grows.refl l, h, hE, Nat.le_refl _⟩
  | succ d ih =>
    intro hj hr
    obtain ⟨m, n, e, g, hm, he, hl⟩ := ih (by omega) (by omega)
    obtain ⟨n1, n2, n3⟩ := emp_node hm (i + d) n he
    have e4 : emptyTo l room (i + (d + 1)) = put6 m room ((n : Int), (n : Int), (n : Int), (n : Int)) := by
      have es : emptyTo l room (i + (d + 1)) = if (emptyTo l room (i + d)).2.2 = 0 then put6 (emptyTo l room (i + d)).1 room ((emptyTo l room (i + d)).2.1, (emptyTo l room (i + d)).2.1, (emptyTo l room (i + d)).2.1, (emptyTo l room (i + d)).2.1) else emptyTo l room (i + d) := rfl
      rw [es, e, if_pos rfl]
    have hfit : Fit4 m ((n : Int), (n : Int), (n : Int), (n : Int)) := by
      refine ⟨fun i hi => ?_, ?_⟩
      · have : kd ((n : Int), (n : Int), (n : Int), (n : Int)) i = (n : Int) := by
          match i, hi with
          | 0, _ => rfl
          | 1, _ => rfl
          | 2, _ => rfl
          | 3, _ => rfl
        rw [this]
        exact ⟨by omega, by omega, rfl⟩
      · show (ndAt m (n : Int)).1 + 1 ≤ 42
        rw [ndAt_nat, n2]
        omega
    rcases put_ok hm hfit with ⟨m', n', e', hp⟩ | ⟨_, hf, _⟩
    · refine ⟨m', n', by rw [e4, e'], g.trans hp.grows, hp.right, ⟨n, emp_grows hp.grows _ n he, hp.at_⟩, ?_⟩
      have := hp.more
      omega
    · omega
theorem empty6_yes {l m : List Nd} {room : Int} {j n : Nat} (h : Right6 l room) (hj : j ≤ 42) (e : emptyTo l room j = (m, (n : Int), 0)) : empty6 l room (j : Int) = (m, (n : Int), 0) := by
  unfold empty6
  have h1 : (right6 l room && decide (0 ≤ (j : Int)) && decide ((j : Int) ≤ 42)) = true := by
    rw [right_iff.2 h, decide_eq_true (by omega), decide_eq_true (by omega)]
    rfl
  rw [if_pos h1, Int.toNat_natCast, e, if_pos rfl]
/-- what NodeEmpty asks -/
structure Empties (l : List Nd) (R : Int) (p q : Nat) (l1 l2 : List Nd) (n m : Nat) : Prop where
  one : empty6 l R (p : Int) = (l1, (n : Int), 0)
  two : empty6 l1 R (q : Int) = (l2, (m : Int), 0)
  three : empty6 l2 R (p : Int) = (l2, (n : Int), 0)
  r1 : Right6 l1 R
  r2 : Right6 l2 R
  n_ : n < l2.length
  m_ : m < l2.length
  pop : (l2.getD n deadN).2.2 = 0
  ln : (l2.getD n deadN).1 = p
  lm : (l2.getD m deadN).1 = q
  same : n = m ↔ p = q
  len : l2.length ≤ l.length + max p q
theorem empties {l : List Nd} {R : Int} (h : Right6 l R) {p q : Nat} (hp : p ≤ 42) (hq : q ≤ 42) (hr : (l.length : Int) + 42 ≤ R) : ∃ l1 l2 n m, Empties l R p q l1 l2 n m := by
  obtain ⟨l1, n, e1, g1, r1, E1, k1⟩ := empty_ok h p hp (by omega)
  have step : ∃ (l2 : List Nd) (m : Nat), emptyTo l1 R q = (l2, (m : Int), 0) ∧ Grows l1 l2 ∧ Right6 l2 R ∧ Emp l2 q m ∧ l2.length ≤ l.length + max p q := by
    rcases Nat.lt_or_ge p q with hpq | hpq
    · obtain ⟨l2, m, e2, g2, r2, E2, k2⟩ := empty_from r1 hp E1 (q - p) (by omega) (by omega)
      rw [show p + (q - p) = q by omega] at e2 E2
      exact ⟨l2, m, e2, g2, r2, E2, by omega⟩
    · obtain ⟨m, hm⟩ := emp_below p n E1 q hpq
      exact ⟨l1, m, empty_had r1 q m hq hm, Grows.refl _, r1, hm, by omega⟩
  obtain ⟨l2, m, e2, g2, r2, E2, k2⟩ := step
  have E3 := emp_grows g2 p n E1
  obtain ⟨a1, a2, a3⟩ := emp_node r2 p n E3
  obtain ⟨b1, b2, b3⟩ := emp_node r2 q m E2
  refine ⟨l1, l2, n, m, empty6_yes h hp e1, empty6_yes r1 hq e2, empty6_yes r2 hp (empty_had r2 p n hp E3), r1, r2, a1, b1, a3, a2, b2, ⟨fun e => ?_, fun e => ?_⟩, k2⟩
  · subst e
    have := a2.symm.trans b2
    omega
  · subst e
    exact emp_one p n m E3 E2

/-- what is found again -/
theorem put_found {l m : List Nd} {R : Int} {k : Kd} {n : Nat} (h : Put6 l m R k n) (hf : Fit4 l k) {b : List Nd} (hb : Right6 b R) (g : Grows m b) : intern6 b R k = (b, (n : Int), 0) := by
  rw [intern_right hb, put_again (g.fit4 (h.grows.fit4 hf)) (g.at_ h.at_)]
theorem put_grows {l : List Nd} {R : Int} (h : Right6 l R) (k : Kd) : Grows l (put6 l R k).1 ∧ (put6 l R k).1.length ≤ l.length + 1 := by
  by_cases ho : over6 l k = true
  · rcases put_ok h (over_fit ho) with ⟨m, n, e, hp⟩ | ⟨e, _⟩
    · rw [e]; exact ⟨hp.grows, hp.more⟩
    · rw [e]; exact ⟨Grows.refl _, by simp⟩
  · rw [put_over_no (by simpa using ho)]
    exact ⟨Grows.refl _, by simp⟩
/-- what NodePops asks -/
structure Pops (l : List Nd) (R : Int) (k t : Kd) (l1 l2 : List Nd) (n m : Nat) : Prop where
  one : intern6 l R k = (l1, (n : Int), 0)
  two : intern6 l1 R t = (l2, (m : Int), 0)
  r1 : Right6 l1 R
  r2 : Right6 l2 R
  n_ : n < l2.length
  m_ : m < l2.length
  pn : (l2.getD n deadN).2.2 = popTo l k 4
  pm : (l2.getD m deadN).2.2 = popTo l k 4
  lev : (l2.getD n deadN).1 = (l2.getD m deadN).1
  same : n = m ↔ k = t
theorem pops {l : List Nd} {R : Int} (h : Right6 l R) {k : Kd} (hf : Fit4 l k) (j : Nat) (hr : (l.length : Int) + 2 ≤ R) : ∃ l1 l2 n m, Pops l R k (turnK k j) l1 l2 n m := by
  rcases put_ok h hf with ⟨l1, n, e1, p1⟩ | ⟨_, hfull, _⟩
  case inr => omega
  have h1 := p1.more
  have hf1 : Fit4 l1 (turnK k j) := p1.grows.fit4 (fit_turn hf j)
  rcases put_ok p1.right hf1 with ⟨l2, m, e2, p2⟩ | ⟨_, hfull, _⟩
  case inr => omega
  obtain ⟨a1, a2, a3, a4, a5⟩ := p1.node hf
  obtain ⟨b1, b2, b3, b4, b5⟩ := p2.node hf1
  have g2 := p2.grows
  have sn := g2.same n a2
  have hle := g2.len
  have hbd := right_bd h
  have hpos : ∀ i, i < 4 → 0 ≤ (ndAt l (kd k i)).2.2 := fun i hi => by
    have hk := hf.kid i hi
    have := (hbd (kd k i).toNat (by omega)).2.2.1
    exact this
  have hposT : ∀ i, i < 4 → 0 ≤ (ndAt l1 (kd (turnK k j) i)).2.2 := fun i hi => by
    have hk := hf1.kid i hi
    have := (right_bd p1.right (kd (turnK k j) i).toNat (by omega)).2.2.1
    exact this
  have hT : popTo l1 (turnK k j) 4 = popTo l k 4 := by
    rw [popTo_sum hposT, popTo_sum hpos]
    have hq := fit_turn hf j
    have q0 := p1.grows.nd (hq.kid 0 (by decide)).1 (hq.kid 0 (by decide)).2.1
    have q1 := p1.grows.nd (hq.kid 1 (by decide)).1 (hq.kid 1 (by decide)).2.1
    have q2 := p1.grows.nd (hq.kid 2 (by decide)).1 (hq.kid 2 (by decide)).2.1
    have q3 := p1.grows.nd (hq.kid 3 (by decide)).1 (hq.kid 3 (by decide)).2.1
    simp only [kd] at q0 q1 q2 q3
    rw [q0, q1, q2, q3, turnK_sum l k j]
  have hL : (ndAt l1 (turnK k j).1).1 = (ndAt l k.1).1 := by
    have hq := fit_turn hf j
    have q0 := p1.grows.nd (hq.kid 0 (by decide)).1 (hq.kid 0 (by decide)).2.1
    simp only [kd] at q0
    rw [q0]
    obtain ⟨i, hi, e⟩ := turnK_kd k j 0 (by decide)
    have := (hf.kid i hi).2.2
    rw [← e] at this
    exact this
  refine ⟨l1, l2, n, m, by rw [intern_right h, e1], by rw [intern_right p1.right, e2], p1.right, p2.right, by omega, b2, by rw [sn, a5], by rw [b5, hT], by rw [sn, a4, b4, hL], ⟨fun e => ?_, fun e => ?_⟩⟩
  · subst e
    exact a3.symm.trans ((congrArg (fun x : Nd => x.2.1) sn).symm.trans b3)
  · rw [← e] at p2
    have := p2.grows.at_ p1.at_
    rw [p2.at_] at this
    exact (Option.some.inj this).symm

/-- the last that has these quarters; below 0: none -/
def hadTo (l : List Nd) (k : Kd) : Nat → Int
  | 0 => -1
  | n + 1 => if 2 ≤ n ∧ (l.getD n deadN).2.1 = k then (n : Int) else hadTo l k n
theorem hadTo_none {l : List Nd} {k : Kd} (h : at6 l k = none) : ∀ n, n ≤ l.length → hadTo l k n = -1 := by
  intro n
  induction n with
  | zero => intro _; rfl
  | succ n ih =>
    intro hn
    unfold hadTo
    rw [if_neg (fun hh => at_none.1 h n hh.1 (by omega) hh.2), ih (by omega)]
theorem hadTo_some {l : List Nd} {room : Int} (hr : Right6 l room) {k : Kd} {a : Nat} (h : at6 l k = some a) : ∀ n, n ≤ l.length → hadTo l k n = if a < n then (a : Int) else -1 := by
  obtain ⟨a1, a2, a3, a4⟩ := at_some h
  intro n
  induction n with
  | zero => intro _; rw [if_neg (Nat.not_lt_zero a)]; rfl
  | succ n ih =>
    intro hn
    unfold hadTo
    by_cases hh : 2 ≤ n ∧ (l.getD n deadN).2.1 = k
    · rw [if_pos hh]
      have hfn := (fits_iff.1 (hr.fits n hh.1 (by omega))).first
      rw [hh.2, h] at hfn
      have : a = n := Option.some.inj hfn
      subst this
      rw [if_pos (by omega)]
    · rw [if_neg hh, ih (by omega)]
      by_cases hlt : a < n
      · rw [if_pos hlt, if_pos (by omega)]
      · have hne : a ≠ n := fun e => hh ⟨by omega, by rw [← e]; exact a3⟩
        rw [if_neg hlt, if_neg (by omega)]
theorem full_case {l : List Nd} {room : Int} (h : Right6 l room) {k : Kd} (hf : Fit4 l k) (hl : l.length + 1 ≤ 100000) :
    (∃ n : Nat, hadTo l k l.length = (n : Int) ∧ intern6 l (l.length : Int) k = (l, (n : Int), 0) ∧ intern6 l ((l.length : Int) + 1) k = (l, (n : Int), 0)) ∨
    (∃ x : Nd, hadTo l k l.length = -1 ∧ intern6 l (l.length : Int) k = (l, 0, 40) ∧ intern6 l ((l.length : Int) + 1) k = (l ++ [x], (l.length : Int), 0)) := by
  have h2 := h.two
  have r0 := h.more (room' := (l.length : Int)) (by omega) (by omega) (by omega)
  have r1 := h.more (room' := (l.length : Int) + 1) (by omega) (by omega) (by omega)
  rw [intern_right r0, intern_right r1]
  cases ha : at6 l k with
  | some n =>
    left
    obtain ⟨a1, a2, _, _⟩ := at_some ha
    exact ⟨n, by rw [hadTo_some h ha l.length (Nat.le_refl _), if_pos a2], put_again hf ha, put_again hf ha⟩
  | none =>
    right
    refine ⟨((ndAt l k.1).1 + 1, k, popTo l k 4), hadTo_none ha l.length (Nat.le_refl _), ?_, ?_⟩
    · rw [put_over_yes (fit_over hf), ha]
      exact if_pos (by omega)
    · rw [put_over_yes (fit_over hf), ha]
      exact if_neg (by omega)
/-- what NodeOnce asks, where there is room -/
structure Once (l : List Nd) (R : Int) (k : Kd) (l1 : List Nd) (n : Nat) : Prop where
  one : intern6 l R k = (l1, (n : Int), 0)
  r1 : Right6 l1 R
  len : l.length ≤ l1.length ∧ l1.length ≤ l.length + 1
  same : ∀ i, i < l.length → l1.getD i deadN = l.getD i deadN
  n_ : n < l1.length
  kids : (l1.getD n deadN).2.1 = k
  again : ∀ t, Right6 (intern6 l1 R t).1 R ∧ intern6 (intern6 l1 R t).1 R k = ((intern6 l1 R t).1, (n : Int), 0) ∧ (intern6 l1 R t).1.length ≤ l1.length + 1
theorem once {l : List Nd} {R : Int} (h : Right6 l R) {k : Kd} (hf : Fit4 l k) : (∃ l1 n, Once l R k l1 n) ∨ (intern6 l R k = (l, 0, 40) ∧ (l.length : Int) = R) := by
  rcases put_ok h hf with ⟨l1, n, e1, p1⟩ | ⟨e, hfull, _⟩
  · left
    obtain ⟨a1, a2, a3, a4, a5⟩ := p1.node hf
    refine ⟨l1, n, by rw [intern_right h, e1], p1.right, ⟨p1.grows.len, p1.more⟩, p1.grows.same, a2, a3, fun t => ?_⟩
    rw [intern_right p1.right]
    have hp := put_right p1.right t
    have hg := put_grows p1.right t
    exact ⟨hp, put_found p1 hf hp hg.1, hg.2⟩
  · right
    have := h.len
    exact ⟨by rw [intern_right h, e], by omega⟩
end Go.Proofs.Ytikgnjcjbjafaaa
namespace Go.Proofs.Ytikgnjcjbjafaaa
set_option maxRecDepth 100000
set_option linter.unusedVariables false
set_option linter.unusedSimpArgs false

/-! ### bits of cells -/
/-- which quarter of a square of the level k + 1 a cell is in, told from a corner -/
def q7 (k : Nat) (c : Int × Int) : Nat := (c.1 / 2 ^ k % 2 + c.2 / 2 ^ k % 2 * 2).toNat
theorem q7_lt (k : Nat) (c : Int × Int) : q7 k c < 4 := by unfold q7; omega
theorem q7_cast (k : Nat) (c : Int × Int) : ((q7 k c : Nat) : Int) = c.1 / 2 ^ k % 2 + c.2 / 2 ^ k % 2 * 2 := by unfold q7; omega
theorem q7_iff {k : Nat} {s c : Int × Int} : q7 k s = q7 k c ↔ s.1 / 2 ^ k % 2 = c.1 / 2 ^ k % 2 ∧ s.2 / 2 ^ k % 2 = c.2 / 2 ^ k % 2 := by
  unfold q7
  constructor
  · intro h; omega
  · rintro ⟨h1, h2⟩; rw [h1, h2]
/-- two cells have the same bits below k -/
def Agree (k : Nat) (s c : Int × Int) : Prop := ∀ j, j < k → q7 j s = q7 j c
def agreeB (k : Nat) (s c : Int × Int) : Bool := (List.range k).all fun j => decide (q7 j s = q7 j c)
theorem agree_iff {k : Nat} {s c : Int × Int} : agreeB k s c = true ↔ Agree k s c := by
  unfold agreeB Agree
  simp [List.all_eq_true]
theorem Agree.refl (k : Nat) (c : Int × Int) : Agree k c c := fun _ _ => rfl
theorem Agree.symm {k : Nat} {s c : Int × Int} (h : Agree k s c) : Agree k c s := fun j hj => (h j hj).symm
theorem Agree.trans {k : Nat} {s c d : Int × Int} (h : Agree k s c) (h2 : Agree k c d) : Agree k s d := fun j hj => (h j hj).trans (h2 j hj)
theorem Agree.low {k j : Nat} {s c : Int × Int} (h : Agree k s c) (hj : j ≤ k) : Agree j s c := fun i hi => h i (by omega)
theorem agree_succ {k : Nat} {s c : Int × Int} : Agree (k + 1) s c ↔ q7 k s = q7 k c ∧ Agree k s c :=
  ⟨fun h => ⟨h k (by omega), h.low (by omega)⟩, fun h j hj => by
    rcases (by omega : j < k ∨ j = k) with h1 | rfl
    · exact h.2 j h1
    · exact h.1⟩
theorem bit_shift (x t : Int) {j k : Nat} (h : j < k) : (x + 2 ^ k * t) / 2 ^ j % 2 = x / 2 ^ j % 2 := by
  have e : (2 : Int) ^ k = 2 ^ j * (2 * 2 ^ (k - j - 1)) := by
    rw [← Int.pow_succ', ← Int.pow_add]
    congr 1
    omega
  have hp : (2 : Int) ^ j ≠ 0 := Int.ne_of_gt (Int.pow_pos (by decide))
  rw [e, Int.mul_assoc, Int.add_mul_ediv_left _ _ hp, Int.mul_assoc, Int.add_mul_emod_self_left]
theorem agree_shift (c : Int × Int) (s t : Int) (k : Nat) : Agree k (c.1 + 2 ^ k * s, c.2 + 2 ^ k * t) c := fun j hj => by
  unfold q7
  simp only
  rw [bit_shift _ _ hj, bit_shift _ _ hj]
theorem pow_pos7 (k : Nat) : (0 : Int) < 2 ^ k := Int.pow_pos (by decide)
theorem with_bit (k i : Nat) (c : Int × Int) (hi : i < 4) : ∃ c', q7 k c' = i ∧ Agree k c' c := by
  have hp := pow_pos7 k
  refine ⟨(c.1 % 2 ^ k + 2 ^ k * ((i % 2 : Nat) : Int), c.2 % 2 ^ k + 2 ^ k * ((i / 2 : Nat) : Int)), ?_, ?_⟩
  · unfold q7
    simp only
    rw [Int.add_mul_ediv_left _ _ (by omega), Int.add_mul_ediv_left _ _ (by omega), Int.ediv_eq_zero_of_lt (Int.emod_nonneg _ (by omega)) (Int.emod_lt_of_pos _ hp), Int.ediv_eq_zero_of_lt (Int.emod_nonneg _ (by omega)) (Int.emod_lt_of_pos _ hp)]
    omega
  · have e1 : c.1 % 2 ^ k + 2 ^ k * ((i % 2 : Nat) : Int) = c.1 + 2 ^ k * (((i % 2 : Nat) : Int) - c.1 / 2 ^ k) := by
      have := Int.emod_add_mul_ediv c.1 (2 ^ k)
      rw [Int.mul_sub]
      omega
    have e2 : c.2 % 2 ^ k + 2 ^ k * ((i / 2 : Nat) : Int) = c.2 + 2 ^ k * (((i / 2 : Nat) : Int) - c.2 / 2 ^ k) := by
      have := Int.emod_add_mul_ediv c.2 (2 ^ k)
      rw [Int.mul_sub]
      omega
    rw [e1, e2]
    exact agree_shift c _ _ k
/-- within a square the bits tell a number -/
theorem bits_ext : ∀ (k : Nat) (x y : Int), 0 ≤ x → x < 2 ^ k → 0 ≤ y → y < 2 ^ k → (∀ j, j < k → x / 2 ^ j % 2 = y / 2 ^ j % 2) → x = y
  | 0, x, y, h1, h2, h3, h4, _ => by
    have : (2 : Int) ^ 0 = 1 := rfl
    omega
  | k + 1, x, y, h1, h2, h3, h4, h => by
    have e : (2 : Int) ^ (k + 1) = 2 ^ k * 2 := Int.pow_succ ..
    have hk := h k (by omega)
    have hp := pow_pos7 k
    have hx : x / 2 ^ k < 2 := Int.ediv_lt_of_lt_mul hp (by omega)
    have hy : y / 2 ^ k < 2 := Int.ediv_lt_of_lt_mul hp (by omega)
    have hx0 : 0 ≤ x / 2 ^ k := Int.ediv_nonneg h1 (by omega)
    have hy0 : 0 ≤ y / 2 ^ k := Int.ediv_nonneg h3 (by omega)
    have hq : x / 2 ^ k = y / 2 ^ k := by omega
    have ex := Int.emod_add_mul_ediv x (2 ^ k)
    have ey := Int.emod_add_mul_ediv y (2 ^ k)
    have hr := bits_ext k (x % 2 ^ k) (y % 2 ^ k) (Int.emod_nonneg _ (by omega)) (Int.emod_lt_of_pos _ hp) (Int.emod_nonneg _ (by omega)) (Int.emod_lt_of_pos _ hp) (fun j hj => by
      have e1 : x % 2 ^ k = x + 2 ^ k * (- (x / 2 ^ k)) := by rw [Int.mul_neg]; omega
      have e2 : y % 2 ^ k = y + 2 ^ k * (- (y / 2 ^ k)) := by rw [Int.mul_neg]; omega
      rw [e1, e2, bit_shift _ _ hj, bit_shift _ _ hj]
      exact h j (by omega))
    rw [hr, hq] at ex
    omega
def InSq (k : Nat) (c : Int × Int) : Prop := 0 ≤ c.1 ∧ c.1 < 2 ^ k ∧ 0 ≤ c.2 ∧ c.2 < 2 ^ k
theorem agree_ext {k : Nat} {s c : Int × Int} (hs : InSq k s) (hc : InSq k c) (h : Agree k s c) : s = c := by
  obtain ⟨s1, s2, s3, s4⟩ := hs
  obtain ⟨c1, c2, c3, c4⟩ := hc
  have e1 := bits_ext k s.1 c.1 s1 s2 c1 c2 (fun j hj => (q7_iff.1 (h j hj)).1)
  have e2 := bits_ext k s.2 c.2 s3 s4 c3 c4 (fun j hj => (q7_iff.1 (h j hj)).2)
  exact Prod.ext e1 e2

/-! ### which cells of a node are alive -/
/-- a place is that of a node of a level -/
structure Is (l : List Nd) (k n : Nat) : Prop where
  lt : n < l.length
  lev : (l.getD n deadN).1 = (k : Int)
theorem Is.grows {l m : List Nd} {k n : Nat} (h : Is l k n) (g : Grows l m) : Is m k n := ⟨Nat.lt_of_lt_of_le h.lt g.len, by rw [g.same n h.lt]; exact h.lev⟩
theorem Is.two {l : List Nd} {room : Int} {k n : Nat} (hr : Right6 l room) (h : Is l (k + 1) n) : 2 ≤ n := by
  have := (level_zero hr h.lt)
  have h2 := h.lev
  by_cases h3 : n < 2
  · rw [this.2 h3] at h2
    omega
  · omega
theorem Is.zero {l : List Nd} {room : Int} {n : Nat} (hr : Right6 l room) (h : Is l 0 n) : n < 2 := (level_zero hr h.lt).1 h.lev
def kidN (l : List Nd) (n i : Nat) : Nat := (kd (l.getD n deadN).2.1 i).toNat
theorem kid_cast {l : List Nd} {room : Int} {k n : Nat} (hr : Right6 l room) (h : Is l (k + 1) n) {i : Nat} (hi : i < 4) : kd (l.getD n deadN).2.1 i = ((kidN l n i : Nat) : Int) := by
  have := ((fits_iff.1 (hr.fits n (h.two hr) h.lt)).kid i hi).1
  unfold kidN
  omega
theorem kid_is {l : List Nd} {room : Int} {k n : Nat} (hr : Right6 l room) (h : Is l (k + 1) n) {i : Nat} (hi : i < 4) : Is l k (kidN l n i) := by
  obtain ⟨h1, h2, h3⟩ := (fits_iff.1 (hr.fits n (h.two hr) h.lt)).kid i hi
  have hn := h.lt
  have hc := kid_cast hr h hi
  refine ⟨by omega, ?_⟩
  rw [hc, ndAt_nat, h.lev] at h3
  rw [h3]
  omega
def alive (l : List Nd) : Nat → Nat → Int × Int → Bool
  | 0, n, _ => decide (n = 1)
  | k + 1, n, c => alive l k (kidN l n (q7 k c)) c
theorem alive_agree {l : List Nd} {s c : Int × Int} : ∀ (k n : Nat), Agree k s c → alive l k n s = alive l k n c
  | 0, _, _ => rfl
  | k + 1, n, h => by
    obtain ⟨h1, h2⟩ := agree_succ.1 h
    show alive l k (kidN l n (q7 k s)) s = alive l k (kidN l n (q7 k c)) c
    rw [h1]
    exact alive_agree k _ h2
theorem kidN_grows {l m : List Nd} (g : Grows l m) {n i : Nat} (h : n < l.length) : kidN m n i = kidN l n i := by unfold kidN; rw [g.same n h]
theorem alive_grows {l m : List Nd} {room : Int} (hr : Right6 l room) (g : Grows l m) (c : Int × Int) : ∀ (k n : Nat), Is l k n → alive m k n c = alive l k n c
  | 0, _, _ => rfl
  | k + 1, n, h => by
    show alive m k (kidN m n (q7 k c)) c = alive l k (kidN l n (q7 k c)) c
    rw [kidN_grows g h.lt]
    exact alive_grows hr g c k _ (kid_is hr h (q7_lt k c))
theorem alive_inj {l : List Nd} {room : Int} (hr : Right6 l room) : ∀ (k n m : Nat), Is l k n → Is l k m → (∀ c, alive l k n c = alive l k m c) → n = m
  | 0, n, m, hn, hm, h => by
    have h0 : decide (n = 1) = decide (m = 1) := h (0, 0)
    have h1 := hn.zero hr
    have h2 := hm.zero hr
    have h3 : n = 1 ↔ m = 1 := by simpa using h0
    omega
  | k + 1, n, m, hn, hm, h => by
    have hk : ∀ i, i < 4 → kidN l n i = kidN l m i := fun i hi => by
      refine alive_inj hr k _ _ (kid_is hr hn hi) (kid_is hr hm hi) fun c => ?_
      obtain ⟨c', h1, h2⟩ := with_bit k i c hi
      have h3 : alive l k (kidN l n (q7 k c')) c' = alive l k (kidN l m (q7 k c')) c' := h c'
      rw [h1, alive_agree k _ h2, alive_agree k _ h2] at h3
      exact h3
    have e : (l.getD n deadN).2.1 = (l.getD m deadN).2.1 := kd_ext fun i hi => by rw [kid_cast hr hn hi, kid_cast hr hm hi, hk i hi]
    have f1 := (fits_iff.1 (hr.fits n (hn.two hr) hn.lt)).first
    have f2 := (fits_iff.1 (hr.fits m (hm.two hr) hm.lt)).first
    rw [e, f2] at f1
    injection f1 with f1
    exact f1.symm
theorem emp_is {l : List Nd} {room : Int} (hr : Right6 l room) {k n : Nat} (h : Emp l k n) : Is l k n := ⟨(emp_node hr k n h).1, (emp_node hr k n h).2.1⟩
theorem kd_four (e : Int) (i : Nat) (hi : i < 4) : kd (e, e, e, e) i = e := by
  match i, hi with
  | 0, _ => rfl
  | 1, _ => rfl
  | 2, _ => rfl
  | 3, _ => rfl
theorem emp_alive {l : List Nd} (c : Int × Int) : ∀ (k n : Nat), Emp l k n → alive l k n c = false
  | 0, n, h => by
    have : n = 0 := h
    subst this
    rfl
  | k + 1, n, h => by
    obtain ⟨e, he, ha⟩ := h
    show alive l k (kidN l n (q7 k c)) c = false
    have : kidN l n (q7 k c) = e := by
      unfold kidN
      rw [(at_some ha).2.2.1, kd_four _ _ (q7_lt k c), Int.toNat_natCast]
    rw [this]
    exact emp_alive c k e he

/-! ### nodes of four quarters -/
def kset (k : Kd) (i : Nat) (v : Int) : Kd :=
  match i with
  | 0 => (v, k.2.1, k.2.2.1, k.2.2.2)
  | 1 => (k.1, v, k.2.2.1, k.2.2.2)
  | 2 => (k.1, k.2.1, v, k.2.2.2)
  | _ => (k.1, k.2.1, k.2.2.1, v)
theorem kd_kset (k : Kd) {i j : Nat} (v : Int) (hi : i < 4) (hj : j < 4) : kd (kset k i v) j = if j = i then v else kd k j := by
  rcases (by omega : i = 0 ∨ i = 1 ∨ i = 2 ∨ i = 3) with rfl | rfl | rfl | rfl <;> rcases (by omega : j = 0 ∨ j = 1 ∨ j = 2 ∨ j = 3) with rfl | rfl | rfl | rfl <;> rfl
/-- so many quarters are made, one behind the other; the first error ends it -/
def fourTo (F : Nat → List Nd → List Nd × Int × Int) (l : List Nd) : Nat → List Nd × Kd × Int
  | 0 => (l, (0, 0, 0, 0), 0)
  | i + 1 => if (fourTo F l i).2.2 = 0 then ((F i (fourTo F l i).1).1, kset (fourTo F l i).2.1 i (F i (fourTo F l i).1).2.1, (F i (fourTo F l i).1).2.2) else fourTo F l i
def four (room : Int) (F : Nat → List Nd → List Nd × Int × Int) (l : List Nd) : List Nd × Int × Int :=
  if (fourTo F l 4).2.2 = 0 then put6 (fourTo F l 4).1 room (fourTo F l 4).2.1 else ((fourTo F l 4).1, 0, (fourTo F l 4).2.2)
theorem fourTo_right {room : Int} {F : Nat → List Nd → List Nd × Int × Int} (hF : ∀ i l, i < 4 → Right6 l room → Right6 (F i l).1 room) {l : List Nd} (h : Right6 l room) : ∀ i, i ≤ 4 → Right6 (fourTo F l i).1 room
  | 0, _ => h
  | i + 1, hi => by
    have ih := fourTo_right hF h i (by omega)
    unfold fourTo
    split
    · exact hF i _ (by omega) ih
    · exact ih
theorem fourTo_stop {F : Nat → List Nd → List Nd × Int × Int} {l : List Nd} {i : Nat} (h : ¬ (fourTo F l i).2.2 = 0) : ∀ d, fourTo F l (i + d) = fourTo F l i
  | 0 => rfl
  | d + 1 => by
    have ih := fourTo_stop h d
    show (if (fourTo F l (i + d)).2.2 = 0 then _ else fourTo F l (i + d)) = _
    rw [ih, if_neg h]
theorem four_right {room : Int} {F : Nat → List Nd → List Nd × Int × Int} (hF : ∀ i l, i < 4 → Right6 l room → Right6 (F i l).1 room) {l : List Nd} (h : Right6 l room) : Right6 (four room F l).1 room := by
  have h4 := fourTo_right hF h 4 (Nat.le_refl _)
  unfold four
  split
  · exact put_right h4 _
  · exact h4
/-- What comes of a making: a node, what is alive in it, how many nodes it took (levels of dead nodes told apart). -/
structure ResAt (room : Int) (K : Nat) (l : List Nd) (h : Nat) (k : Nat) (A : Int × Int → Bool) (cost : Nat) (m : List Nd) (n h' : Nat) : Prop where
  grows : Grows l m
  right : Right6 m room
  is : Is m k n
  alive : ∀ c, alive m k n c = A c
  lo : h ≤ h'
  hi : h' ≤ K
  emp : ∃ e, Emp m h' e
  len : m.length + h ≤ l.length + cost + h'
def Res (room : Int) (K : Nat) (l : List Nd) (h : Nat) (z : List Nd × Int × Int) (k : Nat) (A : Int × Int → Bool) (cost : Nat) : Prop :=
  ∃ m n h', z = (m, ((n : Nat) : Int), 0) ∧ ResAt room K l h k A cost m n h'
theorem four_res {room : Int} {K : Nat} {l : List Nd} {h k : Nat} {F : Nat → List Nd → List Nd × Int × Int} {A : Nat → Int × Int → Bool} {cost : Nat → Nat} (hk : k + 1 ≤ 42) (hr : Right6 l room) (hK : h ≤ K) (he : ∃ e, Emp l h e)
    (hF : ∀ i, i < 4 → ∀ l' h', Grows l l' → Right6 l' room → h ≤ h' → h' ≤ K → (∃ e, Emp l' h' e) → l'.length + h ≤ l.length + ((List.range i).map cost).sum + h' → Res room K l' h' (F i l') k (A i) (cost i))
    (hroom : ((l.length + ((List.range 4).map cost).sum + 1 + K : Nat) : Int) ≤ room + h) :
    Res room K l h (four room F l) (k + 1) (fun c => A (q7 k c) c) (((List.range 4).map cost).sum + 1) := by
  have step : ∀ i, i ≤ 4 → ∃ m q h', fourTo F l i = (m, q, 0) ∧ Grows l m ∧ Right6 m room ∧ h ≤ h' ∧ h' ≤ K ∧ (∃ e, Emp m h' e) ∧ m.length + h ≤ l.length + ((List.range i).map cost).sum + h' ∧
      ∀ j, j < i → ∃ n : Nat, kd q j = (n : Int) ∧ Is m k n ∧ ∀ c, Go.Proofs.Ytikgnjcjbjafaaa.alive m k n c = A j c := by
    intro i
    induction i with
    | zero => intro _; exact ⟨l, (0, 0, 0, 0), h, rfl, Grows.refl l, hr, Nat.le_refl _, hK, he, by simp, fun j hj => absurd hj (Nat.not_lt_zero j)⟩
    | succ i ih =>
      intro hi
      obtain ⟨m, q, h1, e1, g1, r1, lo1, hi1, em1, len1, al1⟩ := ih (by omega)
      obtain ⟨m2, n, h2, e2, R2⟩ := hF i (by omega) m h1 g1 r1 lo1 hi1 em1 len1
      refine ⟨m2, kset q i n, h2, ?_, g1.trans R2.grows, R2.right, by have := R2.lo; omega, R2.hi, R2.emp, ?_, ?_⟩
      · unfold fourTo
        rw [e1]
        simp only [if_true]
        rw [e2]
      · have := R2.len
        rw [List.range_succ, List.map_append, List.sum_append]
        simp only [List.map_cons, List.map_nil, List.sum_cons, List.sum_nil]
        omega
      · intro j hj
        rw [kd_kset q _ (by omega) (by omega)]
        by_cases hji : j = i
        · subst hji
          rw [if_pos rfl]
          exact ⟨n, rfl, R2.is, R2.alive⟩
        · rw [if_neg hji]
          obtain ⟨n', e', is', al'⟩ := al1 j (by omega)
          exact ⟨n', e', is'.grows R2.grows, fun c => (alive_grows r1 R2.grows c k n' is').trans (al' c)⟩
  obtain ⟨m, q, h', e, g, r, lo, hi', em, len, al⟩ := step 4 (Nat.le_refl _)
  have hfit : Fit4 m q := by
    obtain ⟨n0, e0, is0, _⟩ := al 0 (by decide)
    have e0' : q.1 = (n0 : Int) := e0
    have hl0 : (ndAt m q.1).1 = (k : Int) := by rw [e0', ndAt_nat]; exact is0.lev
    refine ⟨fun i hi => ?_, by omega⟩
    obtain ⟨n, en, isn, _⟩ := al i hi
    rw [en, hl0]
    refine ⟨by omega, by have := isn.lt; omega, ?_⟩
    rw [ndAt_nat]
    exact isn.lev
  have hput : four room F l = put6 m room q := by unfold four; rw [e]; rfl
  rcases put_ok r hfit with ⟨m', n', e', hp⟩ | ⟨_, hf, _⟩
  · refine ⟨m', n', h', by rw [hput, e'], g.trans hp.grows, hp.right, ?_, ?_, lo, hi', ?_, ?_⟩
    · obtain ⟨_, p2, _, p4, _⟩ := hp.node hfit
      refine ⟨p2, ?_⟩
      obtain ⟨n0, e0, is0, _⟩ := al 0 (by decide)
      have e0' : q.1 = (n0 : Int) := e0
      rw [p4, e0', ndAt_nat, is0.lev]
      omega
    · intro c
      obtain ⟨_, p2, p3, p4, _⟩ := hp.node hfit
      obtain ⟨n, en, isn, aln⟩ := al (q7 k c) (q7_lt k c)
      show Go.Proofs.Ytikgnjcjbjafaaa.alive m' k (kidN m' n' (q7 k c)) c = _
      have : kidN m' n' (q7 k c) = n := by unfold kidN; rw [p3, en, Int.toNat_natCast]
      rw [this, alive_grows r hp.grows c k n isn, aln c]
    · obtain ⟨e2, he2⟩ := em
      exact ⟨e2, emp_grows hp.grows _ _ he2⟩
    · have := hp.more
      omega
  · omega

/-! ### the node of a set -/
def buildC (room : Int) : Nat → List Nd → List (Int × Int) → List Nd × Int × Int
  | 0, l, S => if S = [] then (l, 0, 0) else (l, 1, 0)
  | k + 1, l, S => if S = [] then emptyTo l room (k + 1) else four room (fun i l => buildC room k l (S.filter fun c => decide (q7 k c = i))) l
theorem buildC_nil (room : Int) (k : Nat) (l : List Nd) : buildC room k l [] = emptyTo l room k := by
  cases k <;> rfl
theorem parts_sum (k : Nat) (f : Int × Int → Nat) (hf : ∀ c, f c < 4) (S : List (Int × Int)) : ((List.range 4).map fun i => (S.filter fun c => decide (f c = i)).length * k).sum = S.length * k := by
  induction S with
  | nil => simp; rfl
  | cons c S ih =>
    have hc := hf c
    have e : ∀ i, ((c :: S).filter fun c => decide (f c = i)).length = (S.filter fun c => decide (f c = i)).length + if f c = i then 1 else 0 := by
      intro i
      rw [List.filter_cons]
      by_cases h : f c = i
      · simp [h]
      · simp [h]
    have hr : List.range 4 = [0, 1, 2, 3] := rfl
    rw [hr] at ih ⊢
    simp only [List.map_cons, List.map_nil, List.sum_cons, List.sum_nil, e, Nat.add_mul] at ih ⊢
    rw [List.length_cons, Nat.add_mul, ← ih]
    rcases (by omega : f c = 0 ∨ f c = 1 ∨ f c = 2 ∨ f c = 3) with h | h | h | h <;> rw [h] <;> simp <;> omega
theorem build_res {room : Int} {K : Nat} (hK42 : K ≤ 42) : ∀ (k : Nat), k ≤ K → ∀ (l : List Nd) (h : Nat) (S : List (Int × Int)), Right6 l room → h ≤ K → (∃ e, Emp l h e) → ((l.length + S.length * k + K : Nat) : Int) ≤ room + h →
    Res room K l h (buildC room k l S) k (fun c => S.any fun s => agreeB k s c) (S.length * k) := by
  have hnil : ∀ (k : Nat), k ≤ K → ∀ (l : List Nd) (h : Nat), Right6 l room → h ≤ K → (∃ e, Emp l h e) → ((l.length + K : Nat) : Int) ≤ room + h → Res room K l h (emptyTo l room k) k (fun _ => false) 0 := by
    intro k hk l h hr hK he hroom
    obtain ⟨e, he⟩ := he
    by_cases hkh : k ≤ h
    · obtain ⟨e', he'⟩ := emp_below h e he k hkh
      exact ⟨l, e', h, empty_had hr k e' (by omega) he', Grows.refl l, hr, emp_is hr he', fun c => emp_alive c k e' he', Nat.le_refl _, hK, ⟨e, he⟩, by omega⟩
    · obtain ⟨m, n, e2, g, r, em, len⟩ := empty_from hr (i := h) (e := e) (by omega) he (k - h) (by omega) (by omega)
      rw [show h + (k - h) = k by omega] at e2 em
      exact ⟨m, n, k, e2, g, r, emp_is r em, fun c => emp_alive c k n em, by omega, hk, ⟨n, em⟩, by omega⟩
  intro k
  induction k with
  | zero =>
    intro _ l h S hr hK he hroom
    by_cases hS : S = []
    · subst hS
      exact hnil 0 (by omega) l h hr hK he (by simpa using hroom)
    · unfold buildC
      rw [if_neg hS]
      refine ⟨l, 1, h, rfl, Grows.refl l, hr, ⟨by have := hr.two; omega, by rw [hr.live]; rfl⟩, fun c => ?_, Nat.le_refl _, hK, he, by omega⟩
      obtain ⟨s, S', rfl⟩ := List.exists_cons_of_ne_nil hS
      show decide (1 = 1) = _
      rw [List.any_cons]
      have : agreeB 0 s c = true := rfl
      rw [this]
      rfl
  | succ k ih =>
    intro hk l h S hr hK he hroom
    by_cases hS : S = []
    · subst hS
      rw [buildC_nil]
      have := hnil (k + 1) hk l h hr hK he (by simpa using hroom)
      simpa using this
    · unfold buildC
      rw [if_neg hS]
      have hpos : 1 ≤ S.length := List.length_pos_iff.2 hS
      have hsum := parts_sum k (q7 k) (q7_lt k) S
      have hmul : S.length * (k + 1) = S.length * k + S.length := Nat.mul_succ _ _
      have hres := four_res (room := room) (K := K) (l := l) (h := h) (k := k) (F := fun i l => buildC room k l (S.filter fun c => decide (q7 k c = i))) (A := fun i c => (S.filter fun c => decide (q7 k c = i)).any fun s => agreeB k s c) (cost := fun i => (S.filter fun c => decide (q7 k c = i)).length * k) (by omega) hr hK he ?_ ?_
      · obtain ⟨m, n, h', e, R⟩ := hres
        refine ⟨m, n, h', e, R.grows, R.right, R.is, fun c => ?_, R.lo, R.hi, R.emp, ?_⟩
        · rw [R.alive c, List.any_filter, Bool.eq_iff_iff, List.any_eq_true, List.any_eq_true]
          constructor
          · rintro ⟨s, hs, h1⟩
            rw [Bool.and_eq_true, decide_eq_true_eq] at h1
            exact ⟨s, hs, agree_iff.2 (agree_succ.2 ⟨h1.1, agree_iff.1 h1.2⟩)⟩
          · rintro ⟨s, hs, h1⟩
            obtain ⟨h2, h3⟩ := agree_succ.1 (agree_iff.1 h1)
            exact ⟨s, hs, by rw [Bool.and_eq_true, decide_eq_true_eq]; exact ⟨h2, agree_iff.2 h3⟩⟩
        · have := R.len
          rw [hsum] at this
          omega
      · intro i hi l' h' g r lo hi' em len
        refine ih (by omega) l' h' _ r hi' em ?_
        have hle : ((List.range i).map fun i => (S.filter fun c => decide (q7 k c = i)).length * k).sum + (S.filter fun c => decide (q7 k c = i)).length * k ≤ S.length * k := by
          rw [← hsum]
          have hr4 : List.range 4 = [0, 1, 2, 3] := rfl
          rw [hr4]
          rcases (by omega : i = 0 ∨ i = 1 ∨ i = 2 ∨ i = 3) with rfl | rfl | rfl | rfl
          · simp; try omega
          · rw [show List.range 1 = [0] from rfl]; simp; try omega
          · rw [show List.range 2 = [0, 1] from rfl]; simp; try omega
          · rw [show List.range 3 = [0, 1, 2] from rfl]; simp; try omega
        omega
      · rw [hsum]
        omega
end Go.Proofs.Ytikgnjcjbjafaaa
