/-
  Of: the set of some cells.
-/
import Derived.Test.YtafoleafhkadiaaCg
namespace Go.Proofs.Ytafoleafhkadiaa
open Go.RowKit Go.Sort

theorem any_out {l : List (Int × Int)} : (l.any fun p => !inB p) = false ↔ ∀ c ∈ l, inB c = true := by
  rw [List.any_eq_false]
  constructor
  · intro h c hc; have := h c hc; simpa using this
  · intro h c hc; rw [h c hc]; simp

theorem of_out (A : Option Addr) (l : List (Int × Int)) (c : Nat) (w : World) (hR : Rd w w.heap.size A l) (hl : l.length ≤ 1000000) (hc : l.length ≤ c) (ho : (l.any fun p => !inB p) = true) :
    Calls Try.prog 14 #[.slice A l.length c] w fun e w' => e = .returned (.tuple #[.slice none 0 0, .int .i64 2]) ∧ Below w.heap.size w w' := by
  have h := containsFunc_any A l c w hR hl hc
  rw [ho] at h
  clear ho
  go_enter Try.func14, Try.ntmps14
  go_wp2_with (go_at_call 38; refine h.mono ?_; rintro e w' ⟨rfl, hb1⟩)
  go_ret2
  exact ⟨rfl, hb1⟩

set_option maxHeartbeats 1000000 in
/-- up to the end: what is handed to told is the set. -/
theorem of_in (A : Option Addr) (l : List (Int × Int)) (c : Nat) (w : World) (hR : Rd w w.heap.size A l) (hl : l.length ≤ 1000000) (hc : l.length ≤ c) (ho : (l.any fun p => !inB p) = false) (hs : (setL l).length ≤ 2000) :
    Calls Try.prog 14 #[.slice A l.length c] w fun e w' => ∃ g, e = .returned (.tuple #[.slice (some ⟨g, 0, none⟩) (setL l).length (setL l).length, .int .i64 0]) ∧ Row w' w.heap.size 25 g (setL l).length (setL l).length (setL l) ∧ Below w.heap.size w w' := by
  have h := containsFunc_any A l c w hR hl hc
  rw [ho] at h
  clear ho
  go_enter Try.func14, Try.ntmps14
  go_wp2_with (go_at_call 38; refine h.mono ?_; rintro e w1 ⟨rfl, hb1⟩)
  go_wp2_with fail
  refine (places_any A l c w1 ((hR.below hb1 (Nat.le_refl _)).more hb1.size) hl hc).mono ?_
  rintro e w2 ⟨rfl, hr2, hb2⟩
  go_wp2_with fail
  refine (sortFunc_any _ l _ w2 hr2 hl).mono ?_
  rintro e w3 ⟨rfl, l', hperm, hsorted, hr3, hb3⟩
  have hlen := hperm.length_eq
  have hdd : ddL l' = setL l := by
    rw [ddL_setL hsorted]
    exact rises_ext (rises_setL _) (rises_setL _) fun y => by rw [mem_setL, mem_setL]; exact hperm.mem_iff
  rw [← hlen] at hr3
  have h4 := compact_any _ l' _ w3 hr3 (by omega)
  rw [hdd, hlen] at h4
  clear hdd hlen hperm hsorted hr3 hr2
  go_wp2_with fail
  refine h4.mono ?_
  rintro e w4 ⟨rfl, hr4, hb4⟩
  clear h4
  go_wp2_with fail
  refine (told_any _ (setL l) _ w4 hr4.rd hs hr4.cap_).mono ?_
  rintro e w5 ⟨rfl, hr5, hb5⟩
  have hB1 : Below w.heap.size w w4 := ((Qt.more hb1 hb1.size hb2).trans (hb3.mono hb1.size)).trans (hb4.mono hb1.size)
  clear hb1 hb2 hb3 hb4 hr4
  go_wp2
  go_ret2
  refine ⟨_, rfl, ⟨hr5.1, ?_⟩, Qt.more hB1 hB1.size hb5⟩
  exact Own.mono (l := setL l) hr5.2 hB1.size

set_option maxHeartbeats 1000000 in
theorem of_long (A : Option Addr) (l : List (Int × Int)) (c : Nat) (w : World) (hR : Rd w w.heap.size A l) (hl : l.length ≤ 1000000) (hc : l.length ≤ c) (ho : (l.any fun p => !inB p) = false) (hs : 2000 < (setL l).length) :
    Calls Try.prog 14 #[.slice A l.length c] w fun e w' => e = .returned (.tuple #[.slice none 0 0, .int .i64 3]) ∧ Below w.heap.size w w' := by
  have h := containsFunc_any A l c w hR hl hc
  have hsl := length_setL l
  rw [ho] at h
  clear ho
  go_enter Try.func14, Try.ntmps14
  go_wp2_with (go_at_call 38; refine h.mono ?_; rintro e w1 ⟨rfl, hb1⟩)
  go_wp2_with fail
  refine (places_any A l c w1 ((hR.below hb1 (Nat.le_refl _)).more hb1.size) hl hc).mono ?_
  rintro e w2 ⟨rfl, hr2, hb2⟩
  go_wp2_with fail
  refine (sortFunc_any _ l _ w2 hr2 hl).mono ?_
  rintro e w3 ⟨rfl, l', hperm, hsorted, hr3, hb3⟩
  have hlen := hperm.length_eq
  have hdd : ddL l' = setL l := by
    rw [ddL_setL hsorted]
    exact rises_ext (rises_setL _) (rises_setL _) fun y => by rw [mem_setL, mem_setL]; exact hperm.mem_iff
  rw [← hlen] at hr3
  have h4 := compact_any _ l' _ w3 hr3 (by omega)
  rw [hdd, hlen] at h4
  clear hdd hlen hperm hsorted hr3 hr2
  go_wp2_with fail
  refine h4.mono ?_
  rintro e w4 ⟨rfl, hr4, hb4⟩
  clear h4 hr4
  go_wp2_with fail
  refine (told_long _ (setL l) _ w4 hs (by omega)).mono ?_
  rintro e w5 ⟨rfl, rfl⟩
  have hB1 : Below w.heap.size w w4 := ((Qt.more hb1 hb1.size hb2).trans (hb3.mono hb1.size)).trans (hb4.mono hb1.size)
  clear hb1 hb2 hb3 hb4
  go_wp2
  go_ret2
  exact ⟨rfl, hB1⟩

end Go.Proofs.Ytafoleafhkadiaa
