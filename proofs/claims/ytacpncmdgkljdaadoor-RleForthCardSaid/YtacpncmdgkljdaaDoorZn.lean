/-
  Layer 5: the law RleBack, walked.
-/
import Derived.Test.YtacpncmdgkljdaaDoorB10
import Derived.Test.YtacpncmdgkljdaaDoorB06
namespace Go.Proofs.YtacpncmdgkljdaaDoor
set_option linter.unusedVariables false
set_option linter.unusedSimpArgs false
open Go.RowKit Go.Sort
open Cel (boxV noBox loX hiX shL rightB rawSet)

theorem refBoxed (A : Option Addr) (l : List (Int × Int)) (c : Nat) (w : World) (hR : Cel.Rd w w.heap.size A l) (hc : l.length ≤ c) (hr : rightB l = true) :
    Calls Tryd.prog 10 #[.slice A l.length c] w fun e w' => e = .returned (.tuple #[boxT l, .bool (decide ((0 : Int) < (l.length : Int)))]) ∧ Below w.heap.size w w' := by
  by_cases h0 : l.length = 0
  · have : l = [] := List.eq_nil_of_length_eq_zero h0
    subst this
    exact Cel.refBox_nil A c w
  · have h := Cel.refBox_any A l c w hR hc (by omega) hr
    have e : boxV l = boxT l := by unfold boxV boxT wideL highL; rw [if_neg h0, if_neg h0]
    rw [e] at h
    rw [decide_eq_true (by omega)]
    exact h
/-- a set is told -/
theorem print_reads {A : Option Addr} {l : List (Int × Int)} {c : Nat} {w : World} (hR : Cel.Rd w w.heap.size A l) (hc : l.length ≤ c) (hr : rightB l = true) (hT : Tab w) {S : ByteArray} (hS : str (printL l) = S) :
    Calls Tryd.prog 13 #[.slice A l.length c] w fun e w' => e = .returned (.tuple #[.string S, .int .i64 0]) ∧ Below w.heap.size w w' := by
  rw [← hS]; exact print_good A l c w hR hc hr hT

set_option maxHeartbeats 8000000 in
set_option maxRecDepth 100000 in
theorem rleBack_walk (A : Option Addr) (raw : List (Int × Int)) (c : Nat) (far dx dy : Int) (w : World) (hR : NowP w A raw) (hl : raw.length ≤ 9223372036854775807) (hc : raw.length ≤ c) (hw : ∀ p ∈ raw, I64 p.1 ∧ I64 p.2) (hf : I64 far) (hdx : I64 dx) (hdy : I64 dy) (hT : Tab w) (hM : Mx w) :
    Calls Tryd.prog 3 #[.slice A raw.length c, .int .i64 far, .int .i64 dx, .int .i64 dy] w fun e w' => e = .returned (.bool true) ∧ Below w.heap.size w w' := by
  have h1 := awake5_any w hT hM
  have hfar := fun W (hb : Below w.heap.size w W) => far_any A raw c far W ((Cel.Rd.below hR hb (Nat.le_refl _)).more hb.size) hl hc hw hf
  have hown := own5_far (decide (pickI far 5 = 4)) raw
  have hp1 := fun W => pick_any dx 274877906944 W hdx.1 hdx.2 (by omega) (by omega)
  have hp2 := fun W => pick_any dy 274877906944 W hdy.1 hdy.2 (by omega) (by omega)
  have b1 := pickI_bd dx 274877906944 (by omega)
  have b2 := pickI_bd dy 274877906944 (by omega)
  generalize farL (decide (pickI far 5 = 4)) (rawSet raw) = l at *
  generalize pickI dx 274877906944 = px at *
  generalize pickI dy 274877906944 = py at *
  have hll := hown.len
  have hcor := hown.corner
  have hcin := corner_in hown.right hown.small
  obtain ⟨ht1, ht2⟩ := shift_in (dx := px) (dy := -py) hown.right (fun c hc => by have := hown.bd c hc; omega)
  have hpt := printL_sh px (-py) l
  have hps := parse_home hown.right hown.small (by have := hown.short; omega)
  have hsl : (printL l).length ≤ 2600 := hown.short
  have hS : str (printL l) = str (printL l) := rfl
  have hT2 : str (printL (shL px (-py) l)) = str (printL l) := by rw [hpt]
  have hbx := fun (A : Option Addr) (c : Nat) (W : World) (hR : Cel.Rd W W.heap.size A l) (hc : l.length ≤ c) => refBoxed A l c W hR hc hown.right
  have hsh1 := fun (A : Option Addr) (c : Nat) (W : World) (hR : Cel.Rd W W.heap.size A l) (hc : l.length ≤ c) => Cel.refShift_any A l c (-(loX l l.length)) (-((l.getD 0 (0, 0)).2)) W hR (by omega) hc (by unfold Cel.I64; omega) (by unfold Cel.I64; omega)
  have hsh2 := fun (A : Option Addr) (c : Nat) (W : World) (hR : Cel.Rd W W.heap.size A l) (hc : l.length ≤ c) => Cel.refShift_any A l c px (-py) W hR (by omega) hc (by unfold Cel.I64; omega) (by unfold Cel.I64; omega)
  rw [hcin] at hsh1
  rw [ht1] at hsh2
  have hpr1 := fun (A : Option Addr) (c : Nat) (W : World) (hR : Cel.Rd W W.heap.size A l) (hc : l.length ≤ c) (hT : Tab W) => print_reads hR hc hown.right hT hS
  have hpr2 := fun (A : Option Addr) (c : Nat) (W : World) (hR : Cel.Rd W W.heap.size A (shL px (-py) l)) (hc : (shL px (-py) l).length ≤ c) (hT : Tab W) => print_reads hR hc ht2 hT hT2
  have hpa := fun W (hM : Mx W) => rleParse_any (printL l) W (by omega) hM
  rw [hps] at hpa
  have hcl : (cornerL l).length ≤ 60 := by unfold cornerL; rw [Cel.length_shL]; exact hll
  unfold boxT at hbx
  unfold SetR at hpa
  unfold Cel.Ans at hsh1 hsh2
  simp only at hpa hsh1 hsh2
  clear hcin ht1 ht2 hpt hps hS hT2 hsl hown
  generalize str (printL l) = S at *
  generalize shL px (-py) l = there at *
  generalize cornerL l = K at *
  generalize loX l l.length = bx at *
  generalize (l.getD 0 (0, 0)).2 = b_y at *
  generalize wideL l = wd at *
  generalize highL l = ht at *
  go_enter Tryd.func3, Tryd.ntmps3
  go_wp2_with fail
  refine h1.mono ?_
  rintro e w1 ⟨rfl, B1⟩
  clear h1
  go_wp2_with fail
  refine (hfar w1 B1).mono ?_
  rintro e w2 ⟨v2, rfl, ⟨A2, c2, rfl, hc2, hR2⟩, hb2⟩
  have B2 := Qt.more B1 B1.size hb2
  clear hfar hb2 B1
  go_wp2_with fail
  refine (hbx A2 c2 w2 hR2 hc2).mono ?_
  rintro e w3 ⟨rfl, hb3⟩
  have B3 := Qt.more B2 B2.size hb3
  have hR3 := (hR2.below hb3 (Nat.le_refl _)).more hb3.size
  have hal : Below w3.heap.size w3 (w3.alloc (.cells #[.int .i64 bx, .int .i64 b_y, .int .i64 wd, .int .i64 ht] 27)) := (Below.refl _ _).alloc (Nat.le_refl _) _
  have hrow := heap_alloc_new w3 (.cells #[.int .i64 bx, .int .i64 b_y, .int .i64 wd, .int .i64 ht] 27)
  have k0 := Lib.cell_of_heap hrow 0
  have k1 := Lib.cell_of_heap hrow 1
  have B4 := Qt.more B3 B3.size hal
  have hR4 := (hR3.below hal (Nat.le_refl _)).more hal.size
  clear hbx hb3 B2 B3 hR2 hR3 hrow hal
  go_wp2_with fail
  refine (hsh1 A2 c2 _ hR4 hc2).mono ?_
  generalize w3.alloc (.cells #[.int .i64 bx, .int .i64 b_y, .int .i64 wd, .int .i64 ht] 27) = w4 at *
  rintro e w5 ⟨v5, rfl, ⟨A5, c5, rfl, hc5, hR5⟩, hb5⟩
  have B5 := Qt.more B4 B4.size hb5
  have hR4 := (hR4.below hb5 (Nat.le_refl _)).more hb5.size
  clear hsh1 hb5 B4 k0 k1
  go_wp2_with fail
  refine (hp1 _).mono ?_
  rintro e w6 ⟨rfl, rfl⟩
  go_wp2_with fail
  refine (hp2 _).mono ?_
  rintro e w6 ⟨rfl, rfl⟩
  go_wp2_with fail
  refine (hsh2 A2 c2 _ hR4 hc2).mono ?_
  rintro e w6 ⟨v6, rfl, ⟨A6, c6, rfl, hc6, hR6⟩, hb6⟩
  have B6 := Qt.more B5 B5.size hb6
  have hR4 := (hR4.below hb6 (Nat.le_refl _)).more hb6.size
  have hR5 := (hR5.below hb6 (Nat.le_refl _)).more hb6.size
  clear hsh2 hb6 B5 hp1 hp2
  go_wp2_with fail
  refine (hpr1 A2 c2 _ hR4 hc2 (hT.below B6)).mono ?_
  rintro e w7 ⟨rfl, hb7⟩
  have B7 := Qt.more B6 B6.size hb7
  have hR5 := (hR5.below hb7 (Nat.le_refl _)).more hb7.size
  have hR6 := (hR6.below hb7 (Nat.le_refl _)).more hb7.size
  clear hpr1 hb7 B6 hR4
  go_wp2_with fail
  refine (hpr2 A6 c6 _ hR6 hc6 (hT.below B7)).mono ?_
  rintro e w8 ⟨rfl, hb8⟩
  have B8 := Qt.more B7 B7.size hb8
  have hR5 := (hR5.below hb8 (Nat.le_refl _)).more hb8.size
  clear hpr2 hb8 B7 hR6
  go_wp2_with fail
  refine (hpa _ (hM.below B8)).mono ?_
  rintro e w9 ⟨v9, rfl, ⟨A9, c9, rfl, hc9, hR9⟩, hb9⟩
  have B9 := Qt.more B8 B8.size hb9
  have hR5 := (hR5.below hb9 (Nat.le_refl _)).more hb9.size
  have hsm := Cel.same_holds (c := c9) (c' := c5) hR9 hR5 (by omega)
  rw [decide_eq_true rfl] at hsm
  clear hpa hb9 B8 hR9 hR5
  go_wp2_with fail
  refine hsm.mono ?_
  rintro e w10 ⟨rfl, hb10⟩
  have B10 := Qt.more B9 B9.size hb10
  clear hsm hb10 B9
  go_wp2
  go_ret
  exact ⟨by first | rfl | (simp [*]; done), B10⟩
end Go.Proofs.YtacpncmdgkljdaaDoor
