/-
  Cells and sets that the laws turn.
-/
import Derived.Test.YtafoleafhkadiaaMb
import Derived.Test.YtafoleafhkadiaaDp
import Derived.Test.YtafoleafhkadiaaGc
namespace Go.Proofs.Ytafoleafhkadiaa
open Go.RowKit Go.Sort

theorem Whole.two {w : World} {g T : Nat} {a b : Value} (h : Whole w g T #[a, b]) :
    w.cell? ⟨g, 0, none⟩ = some a ∧ w.cell? ⟨g, 1, none⟩ = some b ∧ w.frozen? ⟨g, 0, none⟩ = false ∧ w.frozen? ⟨g, 1, none⟩ = false :=
  ⟨h.cell 0, h.cell 1, h.free 0, h.free 1⟩
theorem Whole.set2 {w : World} {g T : Nat} {a b a' b' : Value} (h : Whole w g T #[a, b]) : Whole ((w.setCell ⟨g, 0, none⟩ a').setCell ⟨g, 1, none⟩ b') g T #[a', b'] := (h.set_ 0 a').set_ 1 b'
theorem Whole.far2 {w : World} {g T : Nat} {cs : Array Value} (h : Whole w g T cs) {g' o o' : Nat} (hp : g ≠ g') (u v : Value) : Whole ((w.setCell ⟨g', o, none⟩ u).setCell ⟨g', o', none⟩ v) g T cs := (h.far (p := ⟨g', o, none⟩) hp u).far (p := ⟨g', o', none⟩) hp v

set_option maxHeartbeats 2000000 in
set_option maxRecDepth 100000 in
theorem turn_cell (x y way : Int) (w : World) (hx : -1000000 ≤ x ∧ x ≤ 1000000) (hy : -1000000 ≤ y ∧ y ≤ 1000000) (h1 : -9223372036854775808 ≤ way) (h2 : way ≤ 9223372036854775807) :
    Calls Try.prog 54 #[.agg #[.int .i64 x, .int .i64 y], .int .i64 way] w fun e w' => e = .returned (.agg #[.int .i64 (turnP (pickI way 8) (x, y)).1, .int .i64 (turnP (pickI way 8) (x, y)).2]) ∧ Below w.heap.size w w' := by
  have hk := pickI_bd way 8 (by omega)
  have hp := pick2_any way 8
  obtain ⟨k, hkk⟩ : ∃ k, k = pickI way 8 := ⟨_, rfl⟩
  rw [← hkk] at hk hp ⊢
  clear hkk
  obtain ⟨hk0, hk8⟩ := hk
  have hbd := flip_bd (b := 1000000) (p := (x, y)) ⟨hx.1, hx.2, hy.1, hy.2⟩ k
  have hfl : flipP k (x, y) = (if 4 ≤ k then -x else x, y) := by unfold flipP; split <;> rfl
  obtain ⟨n, hn⟩ : ∃ n : Nat, n = (k % 4).toNat := ⟨_, rfl⟩
  have hnk : k % 4 = (n : Int) := by omega
  have HTN : Hid (turnP k (x, y) = rotN n (flipP k (x, y))) := (show turnP k (x, y) = rotN n (flipP k (x, y)) from by rw [hn]; rfl)
  have hrb := rotN_bd (b := 1000000) (p := flipP k (x, y)) hbd
  obtain ⟨⟨fx, fy⟩, hf⟩ : ∃ f, f = flipP k (x, y) := ⟨_, rfl⟩
  rw [← hf] at hbd HTN hrb hfl
  have HRB := Lib.hid hrb
  have HFL := Lib.hid hfl
  clear hf hn hrb hfl
  have HB : Hid (∀ u v : Value, Below w.heap.size w ((w.alloc (.cells #[u, v] 25)).alloc (.cells #[.int .i64 0, .int .i64 0] 25))) := fun u v => ((Below.refl _ w).alloc (Nat.le_refl _) _).alloc (by simp) _
  have HA : Hid (∀ u v : Value, Whole ((w.alloc (.cells #[u, v] 25)).alloc (.cells #[.int .i64 0, .int .i64 0] 25)) w.heap.size 25 #[u, v]) := fun u v => (Whole.new w _ _).below ((Below.refl _ _).alloc (Nat.le_refl _) _)
  have HZ : Hid (∀ u v : Value, Whole ((w.alloc (.cells #[u, v] 25)).alloc (.cells #[.int .i64 0, .int .i64 0] 25)) (w.heap.size + 1) 25 #[.int .i64 0, .int .i64 0]) := fun u v => by
    have := Whole.new (w.alloc (.cells #[u, v] 25)) 25 #[.int .i64 0, .int .i64 0]
    simpa using this
  have hx1 := hx.1
  have hx2 := hx.2
  have hy1 := hy.1
  have hy2 := hy.2
  clear hx hy
  go_enter Try.func54, Try.ntmps54
  by_cases h4 : 4 ≤ k
  all_goals
    go_wp2_with (go_at_call 29; refine (hp _ h1 h2 (by omega) (by omega)).mono ?_; rintro e w1 ⟨rfl, rfl⟩)
    go_loopw [6] (fun i wr => ∃ j : Nat, j ≤ n ∧ i = .int .i64 j ∧ Aside (Whole wr w.heap.size 25 #[.int .i64 (rotN j (fx, fy)).1, .int .i64 (rotN j (fx, fy)).2] ∧ Whole wr (w.heap.size + 1) 25 #[.int .i64 0, .int .i64 0] ∧ Below w.heap.size w wr)) (fun i _ => n - (intOf i).toNat)
    case atStart =>
      refine ⟨0, Nat.zero_le _, rfl, ?_⟩
      have e := HFL.out
      first
        | rw [if_pos h4] at e
        | rw [if_neg (by omega)] at e
      simp only [Prod.mk.injEq] at e
      obtain ⟨rfl, rfl⟩ := e
      exact ⟨HA.out _ _, HZ.out _ _, HB.out _ _⟩
    case round =>
      obtain ⟨j, hj, rfl, HR⟩ := hrel
      obtain ⟨a0, a1, f0, f1⟩ := HR.out.1.two
      obtain ⟨z0, z1, g0, g1⟩ := HR.out.2.1.two
      have hbj := HRB.out j
      obtain ⟨⟨rx, ry⟩, hr⟩ : ∃ r, r = rotN j (fx, fy) := ⟨_, rfl⟩
      have HS : Hid (rotN (j + 1) (fx, fy) = (-ry, rx)) := (show rotN (j + 1) (fx, fy) = (-ry, rx) from by rw [rotN, ← hr]; rfl)
      rw [← hr] at a0 a1 hbj HR
      simp only at a0 a1 hbj
      obtain ⟨r1, r2, r3, r4⟩ := hbj
      by_cases hlt : j < n
      · have hltz : (j : Int) < (n : Int) := by omega
        clear hr
        go_wp2
        go_roundw
        case measure => simp [intOf]; omega
        case rel =>
          refine ⟨j + 1, by omega, by go_num, ?_⟩
          rw [HS.out]
          exact ⟨HR.out.1.set2, HR.out.2.1.far2 (by omega) _ _, (HR.out.2.2.setCell (Nat.le_refl _) _).setCell (Nat.le_refl _) _⟩
      · have hltz : ¬ (j : Int) < (n : Int) := by omega
        obtain rfl : j = n := by omega
        have HT2 : Hid (turnP k (x, y) = (rx, ry)) := (show turnP k (x, y) = (rx, ry) from by rw [HTN.out, ← hr])
        clear hr
        go_wp2
        rw [HT2.out]
        refine bodyPost_ret (v := .agg #[.int .i64 rx, .int .i64 ry]) (by simp [results, Try.results54, go_sem, z0, z1, g0, g1]) rfl ⟨rfl, ?_⟩
        exact (HR.out.2.2.setCell (by simp) _).setCell (by simp) _

theorem turn_cell' (p : Int × Int) (way : Int) (w : World) (hp : -1000000 ≤ p.1 ∧ p.1 ≤ 1000000 ∧ -1000000 ≤ p.2 ∧ p.2 ≤ 1000000) (h : I64 way) :
    Calls Try.prog 54 #[.agg #[.int .i64 p.1, .int .i64 p.2], .int .i64 way] w fun e w' => e = .returned (.agg #[.int .i64 (turnP (pickI way 8) p).1, .int .i64 (turnP (pickI way 8) p).2]) ∧ Below w.heap.size w w' :=
  turn_cell p.1 p.2 way w ⟨hp.1, hp.2.1⟩ ⟨hp.2.2.1, hp.2.2.2⟩ h.1 h.2

set_option maxHeartbeats 1000000 in
set_option maxRecDepth 100000 in
theorem turned_any (A : Option Addr) (l : List (Int × Int)) (c : Nat) (way : Int) (w : World) (hR : Now w A l) (hl : l.length ≤ 900000) (hc : l.length ≤ c) (hbd : InBox (-1000000) 1000000 (-1000000) 1000000 l) (h : I64 way) :
    Calls Try.prog 36 #[.slice A l.length c, .int .i64 way] w (One w (turnL (pickI way 8) l)) := by
  obtain ⟨k, hk⟩ : ∃ k, k = pickI way 8 := ⟨_, rfl⟩
  have hturn := fun (p : Int × Int) (w : World) hp => turn_cell' p way w hp h
  rw [← hk] at hturn ⊢
  have HT := Lib.hid hturn
  have HBD := Lib.hid hbd
  clear hk hturn hbd h
  go_enter Try.func36, Try.ntmps36
  go_wp2
  go_loopw [5, 6] (fun v i wr => ∃ j : Nat, j ≤ l.length ∧ i = .int .i64 j ∧ Aside (Reads wr v (turnL k (l.take j)) ∧ Below w.heap.size w wr)) (fun _ i _ => l.length - (intOf i).toNat)
  case atStart => exact ⟨0, Nat.zero_le _, rfl, ⟨none, 0, rfl, Nat.le_refl _, Rd.nil _ _ _⟩, Below.refl _ _⟩
  case round =>
    obtain ⟨j, hj, rfl, HK⟩ := hrel
    obtain ⟨A', c', rfl, hc', hR'⟩ := HK.out.1
    have hlen : (turnL k (l.take j)).length ≤ j := Nat.le_trans (length_turnL _ _) (by rw [List.length_take]; omega)
    by_cases hlt : j < l.length
    · have hltz : (j : Int) < (l.length : Int) := by omega
      obtain ⟨b, off, rfl, hcell⟩ := Rd.at_ hR (by omega)
      obtain ⟨⟨x, y⟩, hxy⟩ : ∃ p, p = l.getD j (0, 0) := ⟨_, rfl⟩
      have a0 := (hcell.2 j hlt).1
      have a1 := (hcell.2 j hlt).2
      rw [← hxy] at a0 a1
      simp only at a0 a1
      have c0 := Qt.keep HK.out.2 a0
      have c1 := Qt.keep HK.out.2 a1
      have HP := Lib.hid (HBD.out (x, y) (by rw [hxy]; exact getD_mem hlt))
      have HTK := Lib.hid (turnL_to (k := k) hlt)
      rw [← hxy] at HTK
      obtain ⟨s, hs⟩ : ∃ s, s = turnL k (l.take j) := ⟨_, rfl⟩
      rw [← hs] at hR' hc' hlen HK HTK ⊢
      have HR' := Lib.hid hR'
      clear hs hxy a0 a1 hcell hR'
      go_wp2_with (first
        | (go_at_call 54; refine (HT.out (x, y) _ HP.out).mono ?_; rintro e w1 ⟨rfl, hb1⟩)
        | (go_at_call 37; refine (put_any A' s c' (turnP k (x, y)) _ ((HR'.out.below hb1 (Nat.le_refl _)).more hb1.size) (by omega) hc').mono ?_; rintro e w2 ⟨v2, rfl, hown, hb2⟩; have HO := Lib.hid hown; have HB1 := Lib.hid (Qt.more hb1 hb1.size hb2); clear hown hb2 hb1))
      go_roundw
      case measure => simp [intOf]; omega
      case rel =>
        obtain ⟨A2, c2, e2, h1, h2⟩ := HO.out.rd
        exact ⟨j + 1, by omega, by go_num, ⟨by rw [HTK.out]; exact ⟨A2, c2, e2, h1, h2⟩, Qt.more HK.out.2 HK.out.2.size HB1.out⟩⟩
    · have hltz : ¬ (j : Int) < (l.length : Int) := by omega
      obtain rfl : j = l.length := by omega
      rw [List.take_length] at HK hR' hc' hlen ⊢
      go_wp2
      go_ret
      exact ⟨_, rfl, ⟨A', c', rfl, hc', hR'⟩, HK.out.2⟩

theorem turned_ok {A : Option Addr} {l m : List (Int × Int)} {n c : Nat} {way : Int} {w : World} (hm : turnL (pickI way 8) l = m) (hR : Now w A l) (hn : n = l.length) (hc : n ≤ c) (hl : n ≤ 900000) (hbd : InBox (-1000000) 1000000 (-1000000) 1000000 l) (h : I64 way) :
    Calls Try.prog 36 #[.slice A n c, .int .i64 way] w fun e w' => ∃ A' c', e = .returned (.slice A' m.length c') ∧ m.length ≤ c' ∧ Hid (Now w' A' m) ∧ Below w.heap.size w w' := by
  subst hn hm
  refine (turned_any A l c way w hR hl hc hbd h).mono ?_
  rintro e w' ⟨v, rfl, ⟨A', c', rfl, hc', hR'⟩, hb⟩
  exact ⟨A', c', rfl, hc', hR', hb⟩
theorem refShift_ok {A : Option Addr} {l m : List (Int × Int)} {n c : Nat} {k dx dy : Int} {w : World} (hr : shiftR l dx dy = (k, m)) (hR : Now w A l) (hn : n = l.length) (hc : n ≤ c) (hl : n ≤ 1000000) (hdx : I64 dx) (hdy : I64 dy) :
    Calls Try.prog 27 #[.slice A n c, .int .i64 dx, .int .i64 dy] w (Gives w k m) := by
  subst hn
  refine (refShift_any A l c dx dy w hR hl hc hdx hdy).mono fun e w' h => ?_
  rw [hr] at h
  exact h.gives

end Go.Proofs.Ytafoleafhkadiaa
