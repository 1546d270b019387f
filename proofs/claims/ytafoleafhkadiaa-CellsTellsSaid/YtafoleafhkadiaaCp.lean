/-
  The laws' own Set, and the document's Same.
-/
import Derived.Test.YtafoleafhkadiaaCc
import Derived.Deep.RegionWith
namespace Go.Proofs.Ytafoleafhkadiaa
open Go.RowKit Go.Sort

def rawCell (p : Int × Int) : Int × Int := (pickI p.1 16 - 8, pickI p.2 16 - 8)
/-- the cells that the first k raw numbers tell -/
def rawTo (raw : List (Int × Int)) (k : Nat) : List (Int × Int) := (raw.take k).map rawCell
/-- the set that the laws make of raw numbers -/
def rawSet (raw : List (Int × Int)) : List (Int × Int) := setL (rawTo raw 60)
theorem rawTo_succ {raw : List (Int × Int)} {k : Nat} (hk : k < raw.length) : rawTo raw (k + 1) = rawTo raw k ++ [rawCell (raw.getD k (0, 0))] := by
  unfold rawTo; rw [take_snoc hk, List.map_append]; rfl
theorem length_rawTo (raw : List (Int × Int)) (k : Nat) : (rawTo raw k).length ≤ k := by
  unfold rawTo; rw [List.length_map, List.length_take]; omega
theorem rawCell_bd (p : Int × Int) : -8 ≤ (rawCell p).1 ∧ (rawCell p).1 ≤ 7 ∧ -8 ≤ (rawCell p).2 ∧ (rawCell p).2 ≤ 7 := by
  have h1 := pickI_bd p.1 16 (by omega)
  have h2 := pickI_bd p.2 16 (by omega)
  unfold rawCell
  simp only
  omega
theorem rawTo_bd {raw : List (Int × Int)} {k : Nat} {p : Int × Int} (h : p ∈ rawTo raw k) : -8 ≤ p.1 ∧ p.1 ≤ 7 ∧ -8 ≤ p.2 ∧ p.2 ≤ 7 := by
  unfold rawTo at h
  obtain ⟨q, _, rfl⟩ := List.mem_map.1 h
  exact rawCell_bd q

/-- A slice that reads as a list, whatever its place and capacity. -/
def Reads (w : World) (v : Value) (l : List (Int × Int)) : Prop := ∃ A c, v = .slice A l.length c ∧ l.length ≤ c ∧ Rd w w.heap.size A l
theorem Reads.below {w w' : World} {v : Value} {l : List (Int × Int)} (h : Reads w v l) (hb : Below w.heap.size w w') : Reads w' v l := by
  obtain ⟨A, c, e, hc, hr⟩ := h
  exact ⟨A, c, e, hc, (hr.below hb (Nat.le_refl _)).more hb.size⟩

def I64 (x : Int) : Prop := -9223372036854775808 ≤ x ∧ x ≤ 9223372036854775807

/-- where a slice of cells of the call's own lies -/
def Shape (A : Option Addr) (n c : Nat) : Prop := (A = none ∧ c = 0 ∧ n = 0) ∨ ∃ g, A = some ⟨g, 0, none⟩
theorem shape_own {w : World} {B T : Nat} {A : Option Addr} {n c : Nat} {l : List (Int × Int)} (h : Own w B T (.slice A n c) l) : Shape A n c := by
  rcases h.2 with ⟨h1, h2⟩ | ⟨g, cap, cur, h1, _⟩
  · simp only [Value.slice.injEq] at h1
    exact .inl ⟨h1.1, h1.2.2, h1.2.1⟩
  · simp only [Value.slice.injEq] at h1
    exact .inr ⟨g, h1.1⟩

set_option maxHeartbeats 1000000 in
theorem set_own (A : Option Addr) (raw : List (Int × Int)) (c : Nat) (w : World) (hR : Rd w w.heap.size A raw) (hl : raw.length ≤ 9223372036854775807) (hc : raw.length ≤ c) (hw : ∀ p ∈ raw, I64 p.1 ∧ I64 p.2) :
    Calls Try.prog 13 #[.slice A raw.length c] w fun e w' => ∃ v, e = .returned v ∧ Own w' 0 25 v (rawSet raw) ∧ Below w.heap.size w w' := by
  have HW := Lib.hid hw
  clear hw
  go_enter Try.func13, Try.ntmps13
  go_wp2
  go_loopw [3, 4] (fun v i wr => ∃ k : Nat, k ≤ raw.length ∧ k ≤ 60 ∧ i = .int .i64 k ∧ Aside (Own wr 0 25 v (setL (rawTo raw k))) ∧ Below w.heap.size w wr) (fun _ i _ => 60 - (intOf i).toNat)
  case atStart => exact ⟨0, Nat.zero_le _, by omega, rfl, World.ownsRow_nil _ _ _ _, Below.refl _ _⟩
  case round =>
    obtain ⟨k, hk, hk60, rfl, HO, hb⟩ := hrel
    by_cases hlt : k < raw.length ∧ k < 60
    · obtain ⟨hlt, h60⟩ := hlt
      have hltz : (k : Int) < (raw.length : Int) := by omega
      have h60z : (k : Int) < 60 := by omega
      obtain ⟨b, off, rfl, hbB, hcell⟩ := hR.at_ (by omega)
      obtain ⟨⟨x, y⟩, hxy⟩ : ∃ p, p = raw.getD k (0, 0) := ⟨_, rfl⟩
      obtain ⟨c0, c1⟩ := hcell k hlt
      rw [← hxy] at c0 c1
      simp only at c0 c1
      have c0 := Qt.keep hb c0
      have c1 := Qt.keep hb c1
      have hwf := HW.out _ (getD_mem hlt)
      rw [← hxy] at hwf
      have HWF := Lib.hid hwf
      have hbd := rawCell_bd (x, y)
      unfold rawCell at hbd
      simp only at hbd
      obtain ⟨n1, n2, n3, n4⟩ := hbd
      have HXY := Lib.hid hxy
      obtain ⟨A', c', hv, hc', hr'⟩ := HO.out.rd
      have hsl := length_setL (rawTo raw k)
      have hrl := length_rawTo raw k
      have k0 := Qt.cell_in c0
      have k1 := Qt.cell_in c1
      have HR' := Lib.hid hr'
      subst hv
      clear hxy hcell hwf hr'
      go_wp2
      refine Qt.below_tail 16 (by kernel_rfl) (by kernel_rfl) ?_
      simp only [List.take_succ_cons, List.take_zero, List.drop_succ_cons, List.drop_zero]
      repeat (go_big_quiet_step (first | (go_at_call_of 21 x; exact Qt.at_same fun _ _ => pick_any x 16 _ HWF.out.1.1 HWF.out.1.2 (by omega) (by omega)) | (go_at_call_of 21 y; exact Qt.at_same fun _ _ => pick_any y 16 _ HWF.out.2.1 HWF.out.2.2 (by omega) (by omega))))
      refine wpQuiet_nil ?_
      intro w1 hb1
      have HR1 := (HR'.out.below hb1 (Nat.le_refl _)).more hb1.size
      have hp := put_any A' (setL (rawTo raw k)) c' (pickI x 16 - 8, pickI y 16 - 8) w1 HR1 (by omega) hc'
      have hset : putL (pickI x 16 - 8, pickI y 16 - 8) (setL (rawTo raw k)) = setL (rawTo raw (k + 1)) := by
        rw [rawTo_succ hlt, setL_snoc, ← HXY.out]
        rfl
      rw [hset] at hp
      clear hset HR1
      go_wp2_with (go_at_call 37; refine hp.mono ?_; rintro e w2 ⟨v2, rfl, hown2, hb2⟩)
      go_roundw
      case measure => simp [intOf]; omega
      case rel =>
        refine ⟨k + 1, by omega, by omega, by go_num, ?_, Qt.more (Qt.more hb hb.size hb1) (Nat.le_trans hb.size hb1.size) hb2⟩
        exact hown2.mono (Nat.zero_le _)
    · have hset : rawTo raw k = rawTo raw 60 := by
        unfold rawTo
        by_cases h : k < raw.length
        · rw [show k = 60 by omega]
        · rw [List.take_of_length_le (by omega), List.take_of_length_le (by omega)]
      have HSET := Lib.hid hset
      clear hset
      by_cases h1 : k < raw.length
      · have h1z : (k : Int) < (raw.length : Int) := by omega
        have h2z : ¬ (k : Int) < 60 := by omega
        go_wp2
        go_ret
        have := HO.out
        rw [HSET.out] at this
        exact ⟨_, rfl, this, hb⟩
      · have h1z : ¬ (k : Int) < (raw.length : Int) := by omega
        go_wp2
        go_ret
        have := HO.out
        rw [HSET.out] at this
        exact ⟨_, rfl, this, hb⟩

theorem set_any (A : Option Addr) (raw : List (Int × Int)) (c : Nat) (w : World) (hR : Rd w w.heap.size A raw) (hl : raw.length ≤ 9223372036854775807) (hc : raw.length ≤ c) (hw : ∀ p ∈ raw, I64 p.1 ∧ I64 p.2) :
    Calls Try.prog 13 #[.slice A raw.length c] w fun e w' => ∃ v, e = .returned v ∧ Reads w' v (rawSet raw) ∧ Below w.heap.size w w' :=
  (set_own A raw c w hR hl hc hw).mono fun e w' ⟨v, he, ho, hb⟩ => by
    obtain ⟨A2, c2, h1, h2, h3⟩ := ho.rd
    exact ⟨v, he, ⟨A2, c2, h1, h2, h3⟩, hb⟩

end Go.Proofs.Ytafoleafhkadiaa
