/-
  CountForth: Text undoes Parse: the law returns true whatever text comes in.
  Conditions: none.
-/
import Derived.Test.YtkmcleekiienmaaDoorNh
namespace Go.Proofs.YtkmcleekiienmaaDoor
open Go.RowKit Go.Sort

theorem txt_back {s : ByteArray} (hb : badL s.data.toList = false) (hv : val s.data.toList ≤ 4611686018427387903) : txt (val s.data.toList : Int) = s := by
  unfold txt
  rw [txtL_nat hv, dec_back hb]

set_option maxHeartbeats 2000000 in
theorem countForth_walk (s : ByteArray) (w : World) (hs : s.size ≤ maxLen) (hT : Tab w) :
    Calls Tryd.prog 5 #[.string s] w fun e w' => e = .returned (.bool true) ∧ Below w.heap.size w w' := by
  have hsz : s.size ≤ 9223372036854775807 := by simpa [maxLen] using hs
  have HS := Lib.hid hs
  clear hs
  rcases (show badL s.data.toList = true ∨ badL s.data.toList = false ∧ 4611686018427387903 < val s.data.toList ∨ badL s.data.toList = false ∧ val s.data.toList ≤ 4611686018427387903 by
    cases badL s.data.toList
    · by_cases h : 4611686018427387903 < val s.data.toList
      · exact .inr (.inl ⟨rfl, h⟩)
      · exact .inr (.inr ⟨rfl, by omega⟩)
    · exact .inl rfl) with hbad | ⟨hgood, hbig⟩ | ⟨hgood, hval⟩
  · have hp : parseL s.data.toList = (0, 20) := by unfold parseL; rw [if_pos hbad]
    have HP := Lib.hid hp
    clear hp hbad
    go_enter Tryd.func5, Tryd.ntmps5
    go_wp2_with fail
    refine (awake_any w hT).mono ?_
    rintro e w1 ⟨rfl, hb1⟩
    go_wp2_with fail
    refine (aw_parse HS.out HP.out).mono ?_
    rintro e w2 ⟨rfl, hb2⟩
    go_wp2
    go_ret
    exact ⟨rfl, Qt.more hb1 hb1.size hb2⟩
  · have hp := parse_big hgood hbig
    have hl := big_long hgood hbig
    rw [← size_list] at hl
    have hl2 : (19 : Int) ≤ (s.size : Int) := by omega
    have hl3 : decide ((19 : Int) ≤ (s.size : Int)) = true := decide_eq_true hl2
    have HP := Lib.hid hp
    clear hp hgood hbig
    go_enter Tryd.func5, Tryd.ntmps5
    go_wp2_with fail
    refine (awake_any w hT).mono ?_
    rintro e w1 ⟨rfl, hb1⟩
    go_wp2_with fail
    refine (aw_parse HS.out HP.out).mono ?_
    rintro e w2 ⟨rfl, hb2⟩
    go_wp2
    go_ret
    exact ⟨rfl, Qt.more hb1 hb1.size hb2⟩
  · have hp := parse_ok hgood (by omega)
    have ht := txt_back hgood hval
    obtain ⟨u, hu⟩ : ∃ u, u = val s.data.toList := ⟨_, rfl⟩
    rw [← hu] at hp ht hval
    have HP := Lib.hid hp
    have HX := Lib.hid ht
    have HU : Hid (I64 (u : Int)) := by show I64 _; unfold I64; omega
    clear hp ht hu hgood
    go_enter Tryd.func5, Tryd.ntmps5
    go_wp2_with fail
    refine (awake_any w hT).mono ?_
    rintro e w1 ⟨rfl, hb1⟩
    have HT1 := Lib.hid (hT.below hb1)
    have B1 := Lib.hid hb1
    clear hb1
    go_wp2_with fail
    refine (aw_parse HS.out HP.out).mono ?_
    rintro e w2 ⟨rfl, hb2⟩
    have HT2 := Lib.hid (HT1.out.below hb2)
    have B2 := Lib.hid (Qt.more B1.out B1.out.size hb2)
    clear hb2 HT1 B1
    go_wp2_with fail
    refine (aw_text HU.out HT2.out HX.out).mono ?_
    rintro e w3 ⟨rfl, hb3⟩
    have B3 := Lib.hid (Qt.more B2.out B2.out.size hb3)
    clear hb3
    go_wp2
    all_goals go_ret
    all_goals exact ⟨by first | rfl | (simp; done), B3.out⟩

end Go.Proofs.YtkmcleekiienmaaDoor
