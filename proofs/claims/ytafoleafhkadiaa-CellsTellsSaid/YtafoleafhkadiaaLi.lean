/-
  Helpers that several laws of layer 1 share: sets with a cell taken out, sets of raw numbers, a fresh slice now.
-/
import Derived.Test.YtafoleafhkadiaaLc
import Derived.Test.YtafoleafhkadiaaCq
import Derived.Test.YtafoleafhkadiaaCu
import Derived.Test.YtafoleafhkadiaaQm
namespace Go.Proofs.Ytafoleafhkadiaa
open Go.RowKit Go.Sort

theorem rightB_out {l : List (Int × Int)} (h : rightB l = true) (q : Int × Int) : rightB (outL q l) = true := by
  obtain ⟨h0, h1, h2⟩ := (rightB_iff l).1 h
  exact (rightB_iff _).2 ⟨Nat.le_trans (List.length_filter_le _ _) h0, fun c hc => h1 c (List.mem_filter.1 hc).1, List.Pairwise.filter _ h2⟩
theorem length_out {l : List (Int × Int)} (hs : Rises l) {i : Nat} (hi : i < l.length) : (outL (l.getD i (0, 0)) l).length + 1 = l.length := by
  rw [← stands_found hs hi rfl, List.length_append, List.length_take, List.length_drop]
  omega
theorem rightB_raw (raw : List (Int × Int)) {k : Nat} (hk : k ≤ 60) : rightB (setL (rawTo raw k)) = true := by
  refine (rightB_iff _).2 ⟨Nat.le_trans (length_setL _) (Nat.le_trans (length_rawTo _ _) (by omega)), fun p hp => ?_, rises_setL _⟩
  have h := rawTo_bd ((mem_setL _ _).1 hp)
  rw [inB_iff]
  omega

theorem Fresh.now {w w' : World} {l : List (Int × Int)} {e : Ending} (h : Fresh w l e w') : ∃ g, e = .returned (.tuple #[.slice (some ⟨g, 0, none⟩) l.length l.length, .int .i64 0]) ∧ Hid (Now w' (some ⟨g, 0, none⟩) l) ∧ Below w.heap.size w w' := by
  obtain ⟨g, he, hr, hb⟩ := h
  exact ⟨g, he, hr.rd, hb⟩

theorem right_ok' {A : Option Addr} {l : List (Int × Int)} {n c : Nat} {w : World} (hR : Now w A l) (hn : n = l.length) (hc : n ≤ c) (hr : rightB l = true) :
    Calls Try.prog 17 #[.slice A n c] w fun e w' => e = .returned (.bool true) ∧ Below w.heap.size w w' := by
  subst hn
  exact right_yes hR (Nat.le_trans ((rightB_iff l).1 hr).1 (by decide)) hc hr

end Go.Proofs.Ytafoleafhkadiaa
