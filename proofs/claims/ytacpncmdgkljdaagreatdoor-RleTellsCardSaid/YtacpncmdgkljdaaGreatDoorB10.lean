/-
  Texts that the claims of this seat share, part 10.
-/
import Derived.Test.YtacpncmdgkljdaaGreatDoorB09
import Derived.Test.YtacpncmdgkljdaaGreatDoorRows
import Derived.Test.YtacpncmdgkljdaaGreatDoorB00
import Derived.Test.YtacpncmdgkljdaaGreatDoorB01
import Derived.WalkKit
import Derived.WalkSpells
import Derived.WalkLawsBesides
import Derived.WalkArith
import Derived.IntWalk
import Derived.Lib.QuietBelow
import Derived.Lib.Hide
import Derived.Laws.IdiomStrings
set_option linter.unusedVariables false
set_option linter.unusedSimpArgs false
namespace Go.Proofs.YtacpncmdgkljdaaGreatDoor
set_option linter.unusedVariables false
set_option linter.unusedSimpArgs false
open Go.RowKit Go.Sort
open Cel (boxV noBox loX hiX rightB)

set_option maxHeartbeats 8000000 in
set_option maxRecDepth 100000 in
theorem refPrint_good (A : Option Addr) (l : List (Int × Int)) (c : Nat) (w : World) (hR : Cel.Rd w w.heap.size A l) (hc : l.length ≤ c) (hr : rightB l = true) :
    Calls Tryz.prog 7 #[.slice A l.length c] w fun e w' => e = .returned (.tuple #[.string (str (printL l)), .int .i64 0]) ∧ Below w.heap.size w w' := by
  have h2000 := ((Cel.rightB_iff l).1 hr).1
  have h1 := Cel.refRight_any A l c w hR (by omega) hc
  rw [hr] at h1
  have h2 := fun W (hb : Below w.heap.size w W) => refBoxed A l c W ((hR.below hb (Nat.le_refl _)).more hb.size) hc hr
  obtain ⟨q1, q2, q3, q4, q5, q6, q7, q8⟩ := right_home hr
  have HK := fun k (h : k < l.length) => steps_known q1 h2000 q4 h
  have hhome : fromC (loX l l.length) (l.getD 0 (0, 0)).2 l = homeL l := rfl
  have hll : (homeL l).length = l.length := fromC_len _ _ _
  have hfull : tellL ((homeL l).take l.length) = tellL (homeL l) := by rw [← hll, List.take_length]
  have hzero : tellL ((homeL l).take 0) = ([], 0, 0) := rfl
  have hlen := tellL_len (homeL l)
  have hbnd : ∀ x ∈ (tellL (homeL l)).1, x.2 ≤ 14000000000000000 := by
    intro x hx
    have := tellL_bd (homeL l) (fun c hc => by
      unfold homeL fromC at hc
      obtain ⟨d, hd, rfl⟩ := List.mem_map.1 hc
      have := q1 d hd
      simp only
      omega) x hx
    omega
  rw [hhome] at HK
  have hpr : printL l = headText (wideL l).toNat (highL l).toNat pR ++ 10 :: (textE (ups (tellL (homeL l)).1) ++ [33, 10]) := by
    unfold printL printP ups
    rw [textE_up]
  rw [hpr]
  unfold boxT at h2
  generalize homeL l = L at *
  generalize loX l l.length = bx at *
  generalize (l.getD 0 (0, 0)).2 = b_y at *
  obtain ⟨wd, hwd⟩ : ∃ z : Nat, z = (wideL l).toNat := ⟨_, rfl⟩
  obtain ⟨ht, hht⟩ : ∃ z : Nat, z = (highL l).toNat := ⟨_, rfl⟩
  have hwz : wideL l = (wd : Int) := by omega
  have hhz : highL l = (ht : Int) := by omega
  rw [hwz, hhz] at h2
  rw [← hwd, ← hht]
  have hwb : wd ≤ 3000000000000 := by omega
  have hhb : ht ≤ 3000000000000 := by omega
  have htw := fun W => refText_any (wd : Int) W (by unfold I64; omega)
  have hth := fun W => refText_any (ht : Int) W (by unfold I64; omega)
  have hsa : ({ data := #[120, 32, 61, 32] } : ByteArray).size = 4 := rfl
  have hsb : ({ data := #[44, 32, 121, 32, 61, 32] } : ByteArray).size = 6 := rfl
  have hsc : ({ data := #[44, 32, 114, 117, 108, 101, 32, 61, 32, 66, 51, 47, 83, 50, 51, 10] } : ByteArray).size = 16 := rfl
  have hsd : ({ data := #[33, 10] } : ByteArray).size = 2 := rfl
  have hse : (txt (wd : Int)).size ≤ 19 := txt_size _
  have hsf : (txt (ht : Int)).size ≤ 19 := txt_size _
  have hfin : ∀ Z : List UInt8, str (headText wd ht pR ++ 10 :: (Z ++ [33, 10])) = { data := #[120, 32, 61, 32] } ++ txt (wd : Int) ++ { data := #[44, 32, 121, 32, 61, 32] } ++ txt (ht : Int) ++ { data := #[44, 32, 114, 117, 108, 101, 32, 61, 32, 66, 51, 47, 83, 50, 51, 10] } ++ str Z ++ { data := #[33, 10] } := by
    intro Z
    unfold txt
    rw [txtL_nat (by omega), txtL_nat (by omega)]
    apply ByteArray.ext
    apply Array.ext'
    simp [str, headText, pX, pY, pR]
  have HFIN := Lib.hid hfin
  have HKN := Lib.hid HK
  have HFULL := Lib.hid hfull
  have HBND := Lib.hid hbnd
  have HHR := Lib.hid hR
  clear hwd hht hwz hhz q1 q4 q5 q6 q7 q8 hhome hpr HK hfull hbnd hfin hr
  generalize txt (wd : Int) = tw at *
  generalize txt (ht : Int) = th at *
  go_enter Tryz.func7, Tryz.ntmps7
  go_wp2_with fail
  refine h1.mono ?_
  rintro e w1 ⟨rfl, hb1⟩
  go_wp2_with fail
  refine (h2 w1 hb1).mono ?_
  rintro e w2 ⟨rfl, hb2⟩
  have BB2 := Lib.hid (Qt.more hb1 hb1.size hb2)
  have HR2 := Lib.hid ((hR.below BB2.out (Nat.le_refl _)).more BB2.out.size)
  have H0 := Lib.hid (prAt_0 w2 bx b_y wd ht)
  clear h1 h2 hb1 hb2 hR
  go_wp2
  go_loopw [6, 8] (fun u i wr => ∃ (k : Nat) (v : Value) (q : List Tn) (x y : Nat), k ≤ l.length ∧ i = .int .i64 k ∧ u = v ∧ Hid (tellL (L.take k) = (q, x, y) ∧ PrAt w2 wr bx b_y wd ht (bx + (x : Int)) (b_y + (y : Int)) q v)) (fun _ i _ => l.length - (intOf i).toNat)
  case atStart => exact ⟨0, _, [], 0, 0, Nat.zero_le _, rfl, rfl, hzero, by simpa using H0.out⟩
  case round =>
    obtain ⟨k, v, q, x, y, hk, rfl, hv, HH⟩ := hrel
    have hv2 := hv.symm
    subst hv2
    clear hv H0
    by_cases hlt : k < l.length
    · have hltz : (k : Int) < (l.length : Int) := by omega
      obtain ⟨b0, off, rfl, hbB, hcell⟩ := HR2.out.at_ (by omega)
      obtain ⟨q', x', y', cx, cy, ht1, ht2, g1, g2, g3, g4, hy1, hx1, hbd, hlq⟩ := HKN.out k hlt
      obtain ⟨ht0, H⟩ := HH.out
      rw [ht0] at ht1
      injection ht1 with e1 e2
      injection e2 with e2 e3
      subst e1 e2 e3
      have HT2 := Lib.hid ht2
      obtain ⟨o0, o1⟩ := hcell k hlt
      generalize (l.getD k (0, 0)).1 = X at *
      generalize (l.getD k (0, 0)).2 = Y at *
      obtain ⟨px, hpx⟩ : ∃ z, z = bx + (x : Int) := ⟨_, rfl⟩
      obtain ⟨py, hpy⟩ : ∃ z, z = b_y + (y : Int) := ⟨_, rfl⟩
      rw [← hpx, ← hpy] at H
      have hXb : -6000000000000 ≤ X ∧ X ≤ 6000000000000 := by omega
      have hYb : -6000000000000 ≤ Y ∧ Y ≤ 6000000000000 := by omega
      have HE := Lib.hid (And.intro g1 (And.intro g2 (And.intro hpx hpy)))
      have m1 := Qt.cell_in (Qt.keep H.bel o1)
      have m2 := Qt.cell_in H.c1
      by_cases hdn : y < cy
      · have hgt : py < Y := by omega
        obtain ⟨n1, hn1⟩ : ∃ n, n = cy - y := ⟨_, rfl⟩
        have hd1 : Y - py = (n1 : Int) := by omega
        have hd2 : X - bx = (cx : Int) := by omega
        have hsn := HT2.out
        rw [tellC_down (q, x, y) (cx, cy) hdn] at hsn
        simp only at hsn
        rw [← hn1] at hsn
        have HSN := Lib.hid hsn
        have hnb : n1 ≤ 3000000000000 := by omega
        clear hpx hpy g1 g2 hn1 hy1 hx1 hdn hsn ht0 ht2 HT2 HH HKN hcell
        go_wp2_with fail
        refine Qt.below_all (by kernel_rfl) (by kernel_rfl) ?_
        repeat (go_big_quiet_step (fail))
        refine wpQuiet_nil ?_
        intro wa hba
        have Ha := H.below hba
        clear m1 m2 H hba
        have m1 := Qt.cell_in (Qt.keep Ha.bel o1)
        have m2 := Qt.cell_in Ha.c1
        go_wp2_with fail
        refine Qt.below_tail 9 (by kernel_rfl) (by kernel_rfl) ?_
        simp only [List.take_succ_cons, List.take_zero, List.drop_succ_cons, List.drop_zero]
        repeat (go_big_quiet_step (fail))
        refine wpQuiet_nil ?_
        intro wb hbb
        have Hb := Ha.below hbb
        have hput2 : Calls Tryz.prog 21 #[v, .int .u8 36, .int .i64 n1] wb fun e w' => ∃ v', e = .returned v' ∧ PrAt w2 w' bx b_y wd ht px py (putI q 36 n1) v' := Hb.put 36 n1 (by omega) (fun x hx => by have := hbd x hx; omega) (by omega)
        clear m1 m2 Ha hbb Hb
        go_wp2_with fail
        refine hput2.mono ?_
        rintro e wc ⟨v2, rfl, Hc⟩
        have hlen2 := putI_len q 36 n1
        have hbd2 := putI_bd q 36 n1 _ hbd
        generalize putI q 36 n1 = q2 at *
        have m1 := Qt.cell_in (Qt.keep Hc.bel o1)
        have m2 := Qt.cell_in Hc.b0
        clear hput2
        go_wp2_with fail
        refine Qt.below_tail 8 (by kernel_rfl) (by kernel_rfl) ?_
        simp only [List.take_succ_cons, List.take_zero, List.drop_succ_cons, List.drop_zero]
        repeat (go_big_quiet_step (fail))
        refine wpQuiet_nil ?_
        intro wx hbx
        have Hx := Hc.below hbx
        have f0 := Hx.f 0
        have f1 := Hx.f 1
        have i0 := Hx.c0
        have i1 := Hx.c1
        have He := Hx.set2 bx Y
        clear m1 m2 Hc hbx
        go_wp2_with fail
        generalize (wx.setCell ⟨w2.heap.size + 1, 0, none⟩ (.int .i64 bx)).setCell ⟨w2.heap.size + 1, 1, none⟩ (.int .i64 Y) = we at *
        clear f0 f1 i0 i1 Hx
        have m1 := Qt.cell_in (Qt.keep He.bel o0)
        have m2 := Qt.cell_in He.c0
        refine Qt.below_tail 9 (by kernel_rfl) (by kernel_rfl) ?_
        simp only [List.take_succ_cons, List.take_zero, List.drop_succ_cons, List.drop_zero]
        repeat (go_big_quiet_step (fail))
        refine wpQuiet_nil ?_
        intro wf hbf
        have Hf := He.below hbf
        have hput4 : Calls Tryz.prog 21 #[v2, .int .u8 98, .int .i64 cx] wf fun e w' => ∃ v', e = .returned v' ∧ PrAt w2 w' bx b_y wd ht bx Y (putI q2 98 cx) v' := Hf.put 98 cx (by omega) (fun x hx => by have := hbd2 x hx; omega) (by omega)
        clear m1 m2 He hbf Hf
        go_wp2_with fail
        refine hput4.mono ?_
        rintro e wg ⟨v4, rfl, Hg⟩
        have hlen4 := putI_len q2 98 cx
        have hbd4 := putI_bd q2 98 cx _ hbd2
        generalize putI q2 98 cx = q4 at *
        have hput5 : Calls Tryz.prog 21 #[v4, .int .u8 111, .int .i64 1] wg fun e w' => ∃ v', e = .returned v' ∧ PrAt w2 w' bx b_y wd ht bx Y (putI q4 111 1) v' := Hg.put 111 1 (by omega) (fun x hx => by have := hbd4 x hx; omega) (by omega)
        clear hput4 Hg
        go_wp2_with fail
        refine hput5.mono ?_
        rintro e wh ⟨v5, rfl, Hh⟩
        have e0 := Qt.keep Hh.bel o0
        have f0 := Hh.f 0
        have d0 := Hh.c0
        clear hput5
        go_wp2
        go_roundw
        case measure => simp [intOf]; omega
        case rel =>
          refine ⟨k + 1, _, _, cx + 1, cy, by omega, rfl, rfl, HSN.out, ?_⟩
          have e1 : bx + ((cx + 1 : Nat) : Int) = X + 1 := by have := HE.out; omega
          have e2 : b_y + (cy : Int) = Y := by have := HE.out; omega
          rw [e1, e2]
          exact Hh.set1 (X + 1)
      · have hgt : ¬ py < Y := by omega
        obtain ⟨n2, hn2⟩ : ∃ n, n = cx - x := ⟨_, rfl⟩
        have hd2 : X - px = (n2 : Int) := by omega
        have hpyY : py = Y := by omega
        have hsn := HT2.out
        rw [tellC_on (q, x, y) (cx, cy) hdn] at hsn
        simp only at hsn
        rw [← hn2] at hsn
        have HSN := Lib.hid hsn
        have hnb : n2 ≤ 3000000000000 := by omega
        have HPY := Lib.hid hpyY
        clear hpx hpy g1 g2 hn2 hy1 hx1 hdn hsn ht0 ht2 HT2 HH HKN hcell hpyY
        go_wp2_with fail
        refine Qt.below_all (by kernel_rfl) (by kernel_rfl) ?_
        repeat (go_big_quiet_step (fail))
        refine wpQuiet_nil ?_
        intro wa hba
        have He := H.below hba
        clear m1 m2 H hba
        have m1 := Qt.cell_in (Qt.keep He.bel o0)
        have m2 := Qt.cell_in He.c0
        go_wp2_with fail
        refine Qt.below_tail 9 (by kernel_rfl) (by kernel_rfl) ?_
        simp only [List.take_succ_cons, List.take_zero, List.drop_succ_cons, List.drop_zero]
        repeat (go_big_quiet_step (fail))
        refine wpQuiet_nil ?_
        intro wf hbf
        have Hf := He.below hbf
        have hput4 : Calls Tryz.prog 21 #[v, .int .u8 98, .int .i64 n2] wf fun e w' => ∃ v', e = .returned v' ∧ PrAt w2 w' bx b_y wd ht px py (putI q 98 n2) v' := Hf.put 98 n2 (by omega) (fun x hx => by have := hbd x hx; omega) (by omega)
        clear m1 m2 He hbf Hf
        go_wp2_with fail
        refine hput4.mono ?_
        rintro e wg ⟨v4, rfl, Hg⟩
        have hlen4 := putI_len q 98 n2
        have hbd4 := putI_bd q 98 n2 _ hbd
        generalize putI q 98 n2 = q4 at *
        have hput5 : Calls Tryz.prog 21 #[v4, .int .u8 111, .int .i64 1] wg fun e w' => ∃ v', e = .returned v' ∧ PrAt w2 w' bx b_y wd ht px py (putI q4 111 1) v' := Hg.put 111 1 (by omega) (fun x hx => by have := hbd4 x hx; omega) (by omega)
        clear hput4 Hg
        go_wp2_with fail
        refine hput5.mono ?_
        rintro e wh ⟨v5, rfl, Hh⟩
        have e0 := Qt.keep Hh.bel o0
        have f0 := Hh.f 0
        have d0 := Hh.c0
        clear hput5
        go_wp2
        go_roundw
        case measure => simp [intOf]; omega
        case rel =>
          refine ⟨k + 1, _, _, cx + 1, cy, by omega, rfl, rfl, HSN.out, ?_⟩
          have e1 : bx + ((cx + 1 : Nat) : Int) = X + 1 := by have := HE.out; omega
          have e2 : b_y + (cy : Int) = py := by have := HE.out; have := HPY.out; omega
          rw [e1, e2]
          exact Hh.set1 (X + 1)
    · have hltz : ¬ (k : Int) < (l.length : Int) := by omega
      obtain rfl : k = l.length := by omega
      obtain ⟨ht0, H⟩ := HH.out
      have hq : q = (tellL L).1 := by rw [← HFULL.out, ht0]
      have hql : q.length ≤ 6000 := by rw [hq]; omega
      have hqb : ∀ z ∈ q, z.2 ≤ 14000000000000000 := by rw [hq]; exact HBND.out
      have hfn : str (headText wd ht pR ++ 10 :: (textE (ups (tellL L).1) ++ [33, 10])) = { data := #[120, 32, 61, 32] } ++ tw ++ { data := #[44, 32, 121, 32, 61, 32] } ++ th ++ { data := #[44, 32, 114, 117, 108, 101, 32, 61, 32, 66, 51, 47, 83, 50, 51, 10] } ++ str (textE (ups q)) ++ { data := #[33, 10] } := by rw [HFIN.out, ← hq]
      have HFN := Lib.hid hfn
      obtain ⟨A5, c5, rfl, hc5, hR5⟩ := OwnE.reads H.own
      have hR5 := Lib.hid hR5
      have htl := textE_len (ups q)
      rw [ups_len] at htl
      have hi64 : ∀ x ∈ ups q, I64 x.2.1 := by
        intro x hx
        unfold ups itemsT at hx
        rw [List.map_map] at hx
        obtain ⟨y, hy, rfl⟩ := List.mem_map.1 hx
        have := hqb y hy
        simp only [Function.comp, up]
        unfold I64
        omega
      have htx := fun W (hb : Below wr.heap.size wr W) => refTextE_any A5 (ups q) c5 W (hR5.out.below hb) (by rw [ups_len]; omega) hi64
      unfold TextR at htx
      have hts : (str (textE (ups q))).size ≤ 1000000 := by rw [str_size]; omega
      have hx2 := Qt.cell_in H.b2
      have hx3 := Qt.cell_in H.b3
      have HB := Lib.hid (Qt.more BB2.out BB2.out.size H.bel)
      rw [ups_len] at *
      generalize str (textE (ups q)) = tq at *
      clear HH ht0 hq hqb hi64 htl hlt HFIN hfn H
      generalize q.length = n at *
      go_wp2_with fail
      refine Qt.below_all (by kernel_rfl) (by kernel_rfl) ?_
      repeat (go_big_quiet_step (first | (go_at_call_of 22 (Value.int .i64 (wd : Int)); exact Qt.at_call' fun _ _ => htw _) | (go_at_call_of 22 (Value.int .i64 (ht : Int)); exact Qt.at_call' fun _ _ => hth _) | (go_at_call 23; exact Qt.at_call' fun _ hb => htx _ hb)))
      refine wpQuiet_nil ?_
      intro w9 hb9
      have HB9 := Qt.more HB.out HB.out.size hb9
      clear hb9 hx2 hx3
      go_wp2
      go_ret2
      refine ⟨?_, HB9⟩
      rw [HFN.out]
      rfl
end Go.Proofs.YtacpncmdgkljdaaGreatDoor
namespace Go.Proofs.YtacpncmdgkljdaaGreatDoor
set_option linter.unusedVariables false
set_option linter.unusedSimpArgs false
open Go.RowKit Go.Sort

def lineV (l : List UInt8) : Value := match lineL l with
  | some q => .tuple #[.string ⟨q.1.toArray⟩, .bool true]
  | none => .tuple #[.string ⟨#[]⟩, .bool false]
theorem line_at {l : List UInt8} {k : Nat} (hk : k < l.length) (h : ∀ c ∈ l.take k, c ≠ 10) (h10 : l[k] = 10) : lineL l = some (l.take k, l.drop (k + 1)) := by
  have e : l = l.take k ++ 10 :: l.drop (k + 1) := by
    rw [← h10, ← List.drop_eq_getElem_cons hk, List.take_append_drop]
  have := line_of h (l.drop (k + 1))
  rwa [← e] at this
theorem lineV_at {s : ByteArray} {k : Nat} (hk : k < s.data.toList.length) (h : ∀ c ∈ s.data.toList.take k, c ≠ 10) (h10 : s.data.toList[k] = 10) : lineV s.data.toList = .tuple #[.string (s.extract 0 k), .bool true] := by
  unfold lineV
  rw [line_at hk h h10]
  have : s.extract 0 k = ⟨(s.data.toList.take k).toArray⟩ := by
    apply ByteArray.ext
    apply Array.ext'
    simp
  rw [this]

set_option maxHeartbeats 2000000 in
theorem line_any (s : ByteArray) (w : World) (hs : s.size ≤ 9223372036854775807) :
    Calls Tryz.prog 29 #[.string s] w fun e w' => e = .returned (lineV s.data.toList) ∧ w = w' := by
  generalize hV : lineV s.data.toList = V
  have HV := Lib.hid hV
  have hsz : s.data.toList.length = s.size := rfl
  clear hV
  go_enter Tryz.func29, Tryz.ntmps29
  go_wp2
  go_loop [4] (fun i => ∃ k : Nat, k ≤ s.size ∧ i = .int .i64 k ∧ Hid (∀ c ∈ s.data.toList.take k, c ≠ 10)) (fun i => s.size - (intOf i).toNat)
  case atStart => exact ⟨0, Nat.zero_le _, rfl, fun c hc => absurd hc (by simp)⟩
  case round =>
    obtain ⟨k, hk, rfl, HK⟩ := hrel
    by_cases hlt : k < s.size
    · have hltz : (k : Int) < (s.size : Int) := by omega
      obtain ⟨t, ht⟩ : ∃ t, t = s[k]'hlt := ⟨_, rfl⟩
      have hidx : ∀ h, s[k]'h = t := fun _ => ht.symm
      have hl : s.data.toList[k]'(by rw [hsz]; exact hlt) = t := ht.symm
      by_cases h10 : t = 10
      · subst h10
        have he := HV.out.symm.trans (lineV_at (by rw [hsz]; exact hlt) HK.out hl)
        subst he
        have hz : (((10 : UInt8).toNat : Int) == 10) = true := rfl
        clear ht hl HK HV hsz
        go_wp2
        go_ret2
        exact ⟨rfl, rfl⟩
      · have hz : ((t.toNat : Int) == 10) = false := by
          have : ¬ t.toNat = 10 := fun e => h10 (UInt8.toNat_inj.1 e)
          simp
          omega
        have HK2 : Hid (∀ c ∈ s.data.toList.take (k + 1), c ≠ 10) := by
          intro c hc
          rw [List.take_succ_eq_append_getElem (by rw [hsz]; exact hlt), hl] at hc
          rcases List.mem_append.1 hc with hc | hc
          · exact HK.out c hc
          · rw [List.mem_singleton.1 hc]; exact h10
        clear ht hl HK hsz
        go_wp2
        go_round
        case measure => simp [intOf]; omega
        case rel => exact ⟨k + 1, by omega, by go_num, HK2.out⟩
    · have hltz : ¬ (k : Int) < (s.size : Int) := by omega
      have hn : lineL s.data.toList = none := by
        have := HK.out
        rw [List.take_of_length_le (by rw [hsz]; omega)] at this
        exact line_none this
      have he : V = .tuple #[.string ⟨#[]⟩, .bool false] := by
        rw [← HV.out]
        unfold lineV
        rw [hn]
      subst he
      clear hn HK HV hsz
      go_wp2
      go_ret2
      exact ⟨rfl, rfl⟩
/-! ### where a part stands -/
theorem cutL_cons (part : List UInt8) (c : UInt8) (r : List UInt8) : cutL part (c :: r) = if part.isPrefixOf (c :: r) = true then some ([], (c :: r).drop part.length) else (cutL part r).map fun q => (c :: q.1, q.2) := rfl
theorem cut_skip {part : List UInt8} : ∀ (k : Nat) (l : List UInt8), k ≤ l.length → (∀ j, j < k → part.isPrefixOf (l.drop j) = false) → cutL part l = (cutL part (l.drop k)).map fun q => (l.take k ++ q.1, q.2) := by
  intro k
  induction k with
  | zero => intro l _ _; simp
  | succ k ih =>
    intro l hk h
    cases l with
    | nil => simp at hk
    | cons c r =>
      have h0 := h 0 (by omega)
      rw [List.drop_zero] at h0
      have h1 := ih r (by simpa using hk) fun j hj => by have := h (j + 1) (by omega); simpa using this
      rw [cutL_cons, if_neg (by rw [h0]; decide), h1, List.drop_succ_cons, Option.map_map]
      rfl
theorem cut_at {part : List UInt8} (hp : part ≠ []) {l : List UInt8} {k : Nat} (hk : k ≤ l.length) (h : ∀ j, j < k → part.isPrefixOf (l.drop j) = false) (hy : part.isPrefixOf (l.drop k) = true) : cutL part l = some (l.take k, l.drop (k + part.length)) := by
  rw [cut_skip k l hk h]
  cases hd : l.drop k with
  | nil =>
    rw [hd] at hy
    cases part with
    | nil => exact absurd rfl hp
    | cons a b => simp [List.isPrefixOf] at hy
  | cons c r =>
    rw [hd] at hy
    unfold cutL
    rw [if_pos hy, ← hd, List.drop_drop]
    simp
theorem cut_short {part : List UInt8} : ∀ (l : List UInt8), l.length < part.length → cutL part l = none := by
  intro l
  induction l with
  | nil =>
    intro h
    unfold cutL
    rw [if_neg (by intro e; rw [e] at h; simp at h)]
  | cons c r ih =>
    intro h
    unfold cutL
    have hn : ¬ part.isPrefixOf (c :: r) = true := by
      rw [List.isPrefixOf_iff_prefix]
      intro hp
      have := hp.length_le
      omega
    rw [if_neg hn, ih (by simp at h; omega)]
    rfl
def cutV (part l : List UInt8) : Value := match cutL part l with
  | some q => .tuple #[.string ⟨q.1.toArray⟩, .string ⟨q.2.toArray⟩, .bool true]
  | none => .tuple #[.string ⟨#[]⟩, .string ⟨#[]⟩, .bool false]
theorem extract_is (s part : ByteArray) (k : Nat) : s.extract k (k + part.size) = part ↔ part.data.toList.isPrefixOf (s.data.toList.drop k) = true := by
  rw [List.isPrefixOf_iff_prefix, List.prefix_iff_eq_take]
  have hl : part.data.toList.length = part.size := rfl
  have he : (s.extract k (k + part.size)).data.toList = (s.data.toList.drop k).take part.data.toList.length := by
    rw [hl]
    simp
  constructor
  · intro h
    rw [← he, h]
  · intro h
    apply ByteArray.ext
    apply Array.ext'
    rw [he]
    exact h.symm
theorem take_extract (s : ByteArray) (k : Nat) : s.extract 0 k = ⟨(s.data.toList.take k).toArray⟩ := by
  apply ByteArray.ext
  apply Array.ext'
  simp
theorem drop_extract (s : ByteArray) (k : Nat) : s.extract k s.size = ⟨(s.data.toList.drop k).toArray⟩ := by
  apply ByteArray.ext
  apply Array.ext'
  have e : s.size = s.data.toList.length := rfl
  rw [e]
  simp
  exact List.take_of_length_le (by rw [List.length_drop]; exact Nat.le_refl _)

set_option maxHeartbeats 2000000 in
theorem cut_any (s part : ByteArray) (w : World) (hs : s.size ≤ 1000000) (hp0 : 0 < part.size) (hp : part.size ≤ 1000000) :
    Calls Tryz.prog 57 #[.string s, .string part] w fun e w' => e = .returned (cutV part.data.toList s.data.toList) ∧ Below w.heap.size w w' := by
  generalize hV : cutV part.data.toList s.data.toList = V
  have HV := Lib.hid hV
  have hsz : Hid (s.data.toList.length = s.size) := rfl
  have hpz : Hid (part.data.toList.length = part.size) := rfl
  have hpn : Hid (part.data.toList ≠ []) := fun e => by have := hpz.out; rw [e] at this; simp at this; omega
  clear hV
  go_enter Tryz.func57, Tryz.ntmps57
  go_wp2
  go_loop [7] (fun i => ∃ k : Nat, k ≤ s.size + 1 ∧ i = .int .i64 k ∧ Hid (∀ j, j < k → part.data.toList.isPrefixOf (s.data.toList.drop j) = false)) (fun i => s.size + 1 - (intOf i).toNat)
  case atStart => exact ⟨0, Nat.zero_le _, rfl, fun j hj => absurd hj (Nat.not_lt_zero j)⟩
  case round =>
    obtain ⟨k, hk, rfl, HK⟩ := hrel
    by_cases hlt : k + part.size ≤ s.size
    · have hltz : (k : Int) + (part.size : Int) ≤ (s.size : Int) := by omega
      by_cases hy : part.data.toList.isPrefixOf (s.data.toList.drop k) = true
      · have hE := (extract_is s part k).2 hy
        have he : V = .tuple #[.string (s.extract 0 k), .string (s.extract (k + part.size) s.size), .bool true] := by
          rw [← HV.out]
          unfold cutV
          rw [cut_at hpn.out (by rw [hsz.out]; omega) HK.out hy, hpz.out, take_extract, drop_extract]
        subst he
        have hkk : (k : Int) ≤ (k : Int) + (part.size : Int) := by omega
        have hks : (k : Int) ≤ (s.size : Int) := by omega
        clear hy HK HV
        go_wp2_with fail
        go_region
        have hba := Below.refl w.heap.size w
        have hbd : Below w.heap.size w w.drew := ⟨hba.os, hba.tape, hba.output, hba.size, hba.block⟩
        clear hba
        go_wp2
        go_ret3
        exact ⟨rfl, hbd⟩
      · have hn : part.data.toList.isPrefixOf (s.data.toList.drop k) = false := Bool.eq_false_iff.2 hy
        have hE : ¬ s.extract k (k + part.size) = part := fun e => hy ((extract_is s part k).1 e)
        have hE2 : ((s.extract k (k + part.size)).toList == part.toList) = false := by
          rw [beq_eq_false_iff_ne]
          intro e
          rw [ByteArray.toList_eq, ByteArray.toList_eq] at e
          exact hE (ByteArray.ext (Array.ext' e))
        have hkk : (k : Int) ≤ (k : Int) + (part.size : Int) := by omega
        have HK2 : Hid (∀ j, j < k + 1 → part.data.toList.isPrefixOf (s.data.toList.drop j) = false) := by
          intro j hj
          rcases Nat.lt_or_ge j k with h | h
          · exact HK.out j h
          · rw [show j = k by omega]; exact hn
        clear hy HK HV hn
        go_wp2
        go_round
        case measure => simp [intOf]; omega
        case rel => exact ⟨k + 1, by omega, by go_num, HK2.out⟩
    · have hltz : ¬ (k : Int) + (part.size : Int) ≤ (s.size : Int) := by omega
      have hn : cutL part.data.toList s.data.toList = none := by
        rcases Nat.lt_or_ge s.data.toList.length k with h | h
        · rw [cut_skip s.data.toList.length s.data.toList (Nat.le_refl _) (fun j hj => HK.out j (by omega))]
          rw [List.drop_length, cut_short [] (by rw [hpz.out]; exact hp0)]
          rfl
        · rw [cut_skip k s.data.toList h HK.out, cut_short _ (by rw [List.length_drop, hpz.out, hsz.out]; omega)]
          rfl
      have he : V = .tuple #[.string ⟨#[]⟩, .string ⟨#[]⟩, .bool false] := by
        rw [← HV.out]
        unfold cutV
        rw [hn]
      subst he
      clear hn HK HV
      go_wp2
      go_ret3
      exact ⟨rfl, Below.refl _ _⟩
end Go.Proofs.YtacpncmdgkljdaaGreatDoor
namespace Go.Proofs.YtacpncmdgkljdaaGreatDoor
set_option linter.unusedVariables false
set_option linter.unusedSimpArgs false
open Go.RowKit Go.Sort

/-- a text of bytes -/
def tx (l : List UInt8) : ByteArray := ⟨l.toArray⟩
theorem tx_data (l : List UInt8) : (tx l).data.toList = l := rfl
theorem tx_size (l : List UInt8) : (tx l).size = l.length := by show l.toArray.size = _; simp
theorem tx_ne {l : List UInt8} (h : l ≠ []) : (tx l).toList ≠ [] := by rw [ByteArray.toList_eq]; exact h
theorem tx_nil : (tx []).toList = [] := by rw [ByteArray.toList_eq]; rfl
theorem cut_len {part : List UInt8} : ∀ {l : List UInt8} {q : List UInt8 × List UInt8}, cutL part l = some q → q.1.length ≤ l.length ∧ q.2.length ≤ l.length := by
  intro l
  induction l with
  | nil =>
    intro q h
    unfold cutL at h
    split at h
    · injection h with h; subst h; exact ⟨Nat.le_refl _, Nat.le_refl _⟩
    · cases h
  | cons c r ih =>
    intro q h
    rw [cutL_cons] at h
    split at h
    · injection h with h; subst h
      exact ⟨Nat.zero_le _, by rw [List.length_drop]; omega⟩
    · cases hb : cutL part r with
      | none => rw [hb] at h; cases h
      | some z =>
        rw [hb] at h
        injection h with h
        subst h
        have := ih hb
        simp only [List.length_cons]
        omega
theorem cut_pre {part : List UInt8} (hp : part ≠ []) {l : List UInt8} (h : part.isPrefixOf l = true) : cutL part l = some ([], l.drop part.length) := by
  have := cut_at hp (l := l) (k := 0) (Nat.zero_le _) (fun j hj => absurd hj (Nat.not_lt_zero j)) (by rw [List.drop_zero]; exact h)
  simpa using this
theorem cut_notpre {part : List UInt8} (hp : part ≠ []) {l : List UInt8} (h : part.isPrefixOf l = false) {q : List UInt8 × List UInt8} (hq : cutL part l = some q) : q.1 ≠ [] := by
  cases l with
  | nil =>
    unfold cutL at hq
    rw [if_neg hp] at hq
    cases hq
  | cons c r =>
    rw [cutL_cons, if_neg (by rw [h]; decide)] at hq
    cases hb : cutL part r with
    | none => rw [hb] at hq; cases hq
    | some z =>
      rw [hb] at hq
      injection hq with hq
      subst hq
      simp
theorem cut_l (part l : List UInt8) (w : World) (hl : l.length ≤ 1000000) (hp0 : part ≠ []) (hp : part.length ≤ 1000000) :
    Calls Tryz.prog 57 #[.string (tx l), .string (tx part)] w fun e w' => e = .returned (cutV part l) ∧ Below w.heap.size w w' := by
  have := cut_any (tx l) (tx part) w (by rw [tx_size]; exact hl) (by rw [tx_size]; exact List.length_pos_iff.2 hp0) (by rw [tx_size]; exact hp)
  exact this
theorem cutV_some {part l : List UInt8} {a b : List UInt8} (h : cutL part l = some (a, b)) : cutV part l = .tuple #[.string (tx a), .string (tx b), .bool true] := by unfold cutV; rw [h]; rfl
theorem cutV_none {part l : List UInt8} (h : cutL part l = none) : cutV part l = .tuple #[.string (tx []), .string (tx []), .bool false] := by unfold cutV; rw [h]; rfl

/-- what number answers -/
def NumberAny : Prop := ∀ (l : List UInt8) (w : World), l.length ≤ 1000000 → Calls Tryz.prog 58 #[.string (tx l)] w fun e w' => e = .returned (.bool (numB l)) ∧ Below w.heap.size w w'

set_option maxHeartbeats 2000000 in
theorem head_any (hnum : NumberAny) (l : List UInt8) (w : World) (hl : l.length ≤ 1000000) :
    Calls Tryz.prog 30 #[.string (tx l)] w fun e w' => e = .returned (.bool (headB l)) ∧ Below w.heap.size w w' := by
  have HNUM := Lib.hid hnum
  clear hnum
  have hc1 := fun W => cut_l pX l W hl (by decide) (by decide)
  generalize hr : headB l = r
  have HR := Lib.hid hr
  clear hr
  cases h1 : cutL pX l with
  | none =>
    have he : r = false := by
      rw [← HR.out]
      unfold headB
      cases hp : pX.isPrefixOf l with
      | false => rfl
      | true => rw [cut_pre (by decide) hp] at h1; cases h1
    subst he
    rw [cutV_none h1] at hc1
    have hs0 := tx_nil
    clear HR h1
    unfold pX at hc1
    generalize tx [] = s0 at *
    generalize tx l = s at *
    go_enter Tryz.func30, Tryz.ntmps30
    go_wp2_with fail
    refine (hc1 _).mono ?_
    rintro e w1 ⟨rfl, hb1⟩
    go_wp2
    go_ret
    exact ⟨rfl, hb1⟩
  | some q =>
    obtain ⟨a, rest⟩ := q
    rw [cutV_some h1] at hc1
    have hlr := (cut_len h1).2
    simp only at hlr
    cases hp : pX.isPrefixOf l with
    | false =>
      have ha : a ≠ [] := cut_notpre (by decide) hp h1
      have he : r = false := by
        rw [← HR.out]
        unfold headB
        rw [hp]
        rfl
      subst he
      have hs0 : ¬ (tx a).toList = [] := tx_ne ha
      have hs1 : (tx a).toList.isEmpty = false := by simpa using hs0
      clear HR h1 hp ha
      unfold pX at hc1
      generalize tx a = s0 at *
      generalize tx rest = s1 at *
      generalize tx l = s at *
      go_enter Tryz.func30, Tryz.ntmps30
      go_wp2_with fail
      refine (hc1 _).mono ?_
      rintro e w1 ⟨rfl, hb1⟩
      go_wp2
      go_ret
      exact ⟨rfl, hb1⟩
    | true =>
      have hpre := cut_pre (by decide) hp
      rw [h1] at hpre
      obtain ⟨rfl, rfl⟩ := Prod.mk.inj (Option.some.inj hpre)
      have hs0 := tx_nil
      have hs1 : (tx []).toList.isEmpty = true := by rw [hs0]; rfl
      have hR2 : r = match cutL pY (l.drop 4) with
          | none => false
          | some (w, h) => numB w && match cutL pR h with
            | some (a, b) => numB a && b.isEmpty
            | none => numB h := by
        rw [← HR.out]
        unfold headB
        rw [hp, Bool.true_and]
        rfl
      have hc2 := fun W => cut_l pY (l.drop pX.length) W (by omega) (by decide) (by decide)
      have hlr2 : (l.drop 4).length ≤ 1000000 := by have : pX.length = 4 := rfl; rw [this] at hlr; omega
      clear HR h1 hp hpre
      unfold pX at hc1
      have e4 : l.drop pX.length = l.drop 4 := rfl
      rw [e4] at hc2
      have hc1' : ∀ W, Calls Tryz.prog 57 #[.string (tx l), .string (tx [120, 32, 61, 32])] W fun e w' => e = .returned (.tuple #[.string (tx []), .string (tx (l.drop 4)), .bool true]) ∧ Below W.heap.size W w' := hc1
      clear hc1 e4 hlr
      have hc1 := hc1'
      clear hc1'
      generalize l.drop 4 = rest at *
      generalize tx l = s at *
      cases h2 : cutL pY rest with
      | none =>
        rw [h2] at hR2
        simp only at hR2
        subst hR2
        rw [cutV_none h2] at hc2
        clear h2
        unfold pY at hc2
        generalize tx [] = s0 at *
        generalize tx rest = s1 at *
        go_enter Tryz.func30, Tryz.ntmps30
        go_wp2_with fail
        refine (hc1 _).mono ?_
        rintro e w1 ⟨rfl, hb1⟩
        go_wp2_with fail
        refine (hc2 _).mono ?_
        rintro e w2 ⟨rfl, hb2⟩
        have hB2 := Lib.hid (Qt.more hb1 hb1.size hb2)
        clear hb2 hb1
        go_wp2
        go_ret
        exact ⟨rfl, hB2.out⟩
      | some q =>
        obtain ⟨u, v⟩ := q
        have hlu := cut_len h2
        simp only at hlu
        rw [h2] at hR2
        simp only at hR2
        rw [cutV_some h2] at hc2
        have hu := fun W => HNUM.out u W (by omega)
        clear h2
        unfold pY at hc2
        cases hnu : numB u with
        | false =>
          rw [hnu, Bool.false_and] at hR2
          rw [hnu] at hu
          subst hR2
          clear hnu
          generalize tx [] = s0 at *
          generalize tx rest = s1 at *
          generalize tx u = s2 at *
          generalize tx v = s3 at *
          go_enter Tryz.func30, Tryz.ntmps30
          go_wp2_with fail
          refine (hc1 _).mono ?_
          rintro e w1 ⟨rfl, hb1⟩
          go_wp2_with fail
          refine (hc2 _).mono ?_
          rintro e w2 ⟨rfl, hb2⟩
          have hB2 := Lib.hid (Qt.more hb1 hb1.size hb2)
          clear hb2 hb1
          go_wp2_with fail
          refine (hu _).mono ?_
          rintro e w3 ⟨rfl, hb3⟩
          have hB3 := Lib.hid (Qt.more hB2.out hB2.out.size hb3)
          clear hb3 hB2
          go_wp2
          go_ret
          exact ⟨rfl, hB3.out⟩
        | true =>
          rw [hnu, Bool.true_and] at hR2
          rw [hnu] at hu
          have hc3 := fun W => cut_l pR v W (by omega) (by decide) (by decide)
          clear hnu
          cases h3 : cutL pR v with
          | none =>
            rw [h3] at hR2
            simp only at hR2
            subst hR2
            rw [cutV_none h3] at hc3
            have hx := fun W => HNUM.out v W (by omega)
            generalize numB v = nv at *
            clear h3
            unfold pR at hc3
            generalize tx [] = s0 at *
            generalize tx rest = s1 at *
            generalize tx u = s2 at *
            generalize tx v = s3 at *
            go_enter Tryz.func30, Tryz.ntmps30
            go_wp2_with fail
            refine (hc1 _).mono ?_
            rintro e w1 ⟨rfl, hb1⟩
            go_wp2_with fail
            refine (hc2 _).mono ?_
            rintro e w2 ⟨rfl, hb2⟩
            have hB2 := Lib.hid (Qt.more hb1 hb1.size hb2)
            clear hb2 hb1
            go_wp2_with fail
            refine (hu _).mono ?_
            rintro e w3 ⟨rfl, hb3⟩
            have hB3 := Lib.hid (Qt.more hB2.out hB2.out.size hb3)
            clear hb3 hB2
            go_wp2_with fail
            refine (hc3 _).mono ?_
            rintro e w4 ⟨rfl, hb4⟩
            have hB4 := Lib.hid (Qt.more hB3.out hB3.out.size hb4)
            clear hb4 hB3
            go_wp2_with fail
            refine (hx _).mono ?_
            rintro e w5 ⟨rfl, hb5⟩
            have hB5 := Lib.hid (Qt.more hB4.out hB4.out.size hb5)
            clear hb5 hB4
            go_wp2
            go_ret
            exact ⟨rfl, hB5.out⟩
          | some q =>
            obtain ⟨x, y⟩ := q
            have hlx := cut_len h3
            simp only at hlx
            rw [h3] at hR2
            simp only at hR2
            rw [cutV_some h3] at hc3
            have hx := fun W => HNUM.out x W (by omega)
            clear h3
            unfold pR at hc3
            have hye : (tx y).toList.isEmpty = y.isEmpty := by rw [ByteArray.toList_eq]; rfl
            cases hnx : numB x with
            | false =>
              rw [hnx, Bool.false_and] at hR2
              rw [hnx] at hx
              subst hR2
              clear hnx hye
              generalize tx [] = s0 at *
              generalize tx rest = s1 at *
              generalize tx u = s2 at *
              generalize tx v = s3 at *
              generalize tx x = s4 at *
              generalize tx y = s5 at *
              go_enter Tryz.func30, Tryz.ntmps30
              go_wp2_with fail
              refine (hc1 _).mono ?_
              rintro e w1 ⟨rfl, hb1⟩
              go_wp2_with fail
              refine (hc2 _).mono ?_
              rintro e w2 ⟨rfl, hb2⟩
              have hB2 := Lib.hid (Qt.more hb1 hb1.size hb2)
              clear hb2 hb1
              go_wp2_with fail
              refine (hu _).mono ?_
              rintro e w3 ⟨rfl, hb3⟩
              have hB3 := Lib.hid (Qt.more hB2.out hB2.out.size hb3)
              clear hb3 hB2
              go_wp2_with fail
              refine (hc3 _).mono ?_
              rintro e w4 ⟨rfl, hb4⟩
              have hB4 := Lib.hid (Qt.more hB3.out hB3.out.size hb4)
              clear hb4 hB3
              go_wp2_with fail
              refine (hx _).mono ?_
              rintro e w5 ⟨rfl, hb5⟩
              have hB5 := Lib.hid (Qt.more hB4.out hB4.out.size hb5)
              clear hb5 hB4
              go_wp2
              go_ret
              exact ⟨rfl, hB5.out⟩
            | true =>
              rw [hnx, Bool.true_and] at hR2
              rw [hnx] at hx
              rw [← hye] at hR2
              subst hR2
              clear hnx hye
              generalize tx [] = s0 at *
              generalize tx rest = s1 at *
              generalize tx u = s2 at *
              generalize tx v = s3 at *
              generalize tx x = s4 at *
              generalize tx y = s5 at *
              cases hy : s5.toList.isEmpty
              all_goals
                go_enter Tryz.func30, Tryz.ntmps30
                go_wp2_with fail
                refine (hc1 _).mono ?_
                rintro e w1 ⟨rfl, hb1⟩
                go_wp2_with fail
                refine (hc2 _).mono ?_
                rintro e w2 ⟨rfl, hb2⟩
                have hB2 := Lib.hid (Qt.more hb1 hb1.size hb2)
                clear hb2 hb1
                go_wp2_with fail
                refine (hu _).mono ?_
                rintro e w3 ⟨rfl, hb3⟩
                have hB3 := Lib.hid (Qt.more hB2.out hB2.out.size hb3)
                clear hb3 hB2
                go_wp2_with fail
                refine (hc3 _).mono ?_
                rintro e w4 ⟨rfl, hb4⟩
                have hB4 := Lib.hid (Qt.more hB3.out hB3.out.size hb4)
                clear hb4 hB3
                go_wp2_with fail
                refine (hx _).mono ?_
                rintro e w5 ⟨rfl, hb5⟩
                have hB5 := Lib.hid (Qt.more hB4.out hB4.out.size hb5)
                clear hb5 hB4
                go_wp2
                go_ret
                exact ⟨rfl, hB5.out⟩
/-- what gosperref03's Parse answers -/
def ParseAny : Prop := ∀ (l : List UInt8) (w : World), l.length ≤ 1000000 → Calls Tryz.prog 61 #[.string (tx l)] w fun e w' => e = .returned (.tuple #[.int .i64 (parseL l).1, .int .i64 (parseL l).2]) ∧ Below w.heap.size w w'
theorem number_any (hp : ParseAny) : NumberAny := by
  intro l w hl
  have hc := fun W => hp l W hl
  unfold numB
  clear hp
  generalize parseL l = q at *
  obtain ⟨v, x⟩ := q
  simp only at hc ⊢
  generalize tx l = s at *
  cases hx : decide (x = 0) with
  | true =>
    have h0 : x = 0 := of_decide_eq_true hx
    subst h0
    clear hx
    go_enter Tryz.func58, Tryz.ntmps58
    go_wp2_with fail
    refine (hc _).mono ?_
    rintro e w1 ⟨rfl, hb1⟩
    go_wp2
    go_ret
    exact ⟨rfl, hb1⟩
  | false =>
    have h0 : (x == 0) = false := by
      have := of_decide_eq_false hx
      simpa using this
    clear hx
    go_enter Tryz.func58, Tryz.ntmps58
    go_wp2_with fail
    refine (hc _).mono ?_
    rintro e w1 ⟨rfl, hb1⟩
    go_wp2
    go_ret
    exact ⟨rfl, hb1⟩
end Go.Proofs.YtacpncmdgkljdaaGreatDoor
