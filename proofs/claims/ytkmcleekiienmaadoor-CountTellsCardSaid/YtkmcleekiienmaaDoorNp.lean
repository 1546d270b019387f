/-
  CountTells: numbers, texts and powers of two are as the document says: the law returns true whatever numbers, texts and lists come in.
  Conditions: no text takes more than 2^47 bytes (as none does).
-/
import Derived.Test.YtkmcleekiienmaaDoorNo
import Derived.Test.YtkmcleekiienmaaDoorNm
namespace Go.Proofs.YtkmcleekiienmaaDoor
open Go.RowKit Go.Sort

/-- texts that lie in a block -/
def Strs (w : World) (b : Nat) (ys : List ByteArray) : Prop := b < w.heap.size ∧ ∀ j, j < ys.length → w.cell? ⟨b, j, none⟩ = some (.string (ys.getD j default))
theorem Strs.below {w w' : World} {b : Nat} {ys : List ByteArray} (h : Strs w b ys) (hb : Below w.heap.size w w') : Strs w' b ys :=
  ⟨Nat.lt_of_lt_of_le h.1 hb.size, fun j hj => (hb.cell (p := ⟨b, j, none⟩) h.1).trans (h.2 j hj)⟩
theorem strs_new (w : World) (T : Nat) (a b c d e : ByteArray) : Strs (w.alloc (.cells #[.string a, .string b, .string c, .string d, .string e] T)) w.heap.size [a, b, c, d, e] := by
  refine ⟨by simp, fun j hj => ?_⟩
  have hj5 : j < 5 := hj
  match j, hj5 with
  | 0, _ => simp
  | 1, _ => simp
  | 2, _ => simp
  | 3, _ => simp
  | 4, _ => simp

/-- lists that lie in a block, as slices -/
def Lists (w : World) (b m : Nat) : Prop := b < w.heap.size ∧ ∀ j, j < m → ∃ A n c l, w.cell? ⟨b, j, none⟩ = some (.slice A n c) ∧ Now w A l ∧ n = l.length ∧ n ≤ 9223372036854775807 ∧ n ≤ c ∧ ∀ x ∈ l, I64 x
theorem Lists.below {w w' : World} {b m : Nat} (h : Lists w b m) (hb : Below w.heap.size w w') : Lists w' b m :=
  ⟨Nat.lt_of_lt_of_le h.1 hb.size, fun j hj => by
    obtain ⟨A, n, c, l, h0, h1, h2, h3, h4, h5⟩ := h.2 j hj
    exact ⟨A, n, c, l, (hb.cell (p := ⟨b, j, none⟩) h.1).trans h0, h1.below hb, h2, h3, h4, h5⟩⟩
theorem lists_new (w : World) (T : Nat) {A B C : Option Addr} {l m k : List Int} {ln mn kn lc mc kc : Nat} (hl : Now w A l) (hm : Now w B m) (hk : Now w C k) (el : ln = l.length) (em : mn = m.length) (ek : kn = k.length) (bl : ln ≤ 9223372036854775807) (bm : mn ≤ 9223372036854775807) (bk : kn ≤ 9223372036854775807)
    (cl : ln ≤ lc) (cm : mn ≤ mc) (ck : kn ≤ kc) (il : ∀ x ∈ l, I64 x) (im : ∀ x ∈ m, I64 x) (ik : ∀ x ∈ k, I64 x) :
    Lists (w.alloc (.cells #[.slice A ln lc, .slice B mn mc, .slice C kn kc] T)) w.heap.size 3 := by
  have hb : Below w.heap.size w (w.alloc (.cells #[.slice A ln lc, .slice B mn mc, .slice C kn kc] T)) := (Below.refl _ _).alloc (Nat.le_refl _) _
  refine ⟨by simp, fun j hj => ?_⟩
  match j, hj with
  | 0, _ => exact ⟨A, ln, lc, l, by simp, hl.below hb, el, bl, cl, il⟩
  | 1, _ => exact ⟨B, mn, mc, m, by simp, hm.below hb, em, bm, cm, im⟩
  | 2, _ => exact ⟨C, kn, kc, k, by simp, hk.below hb, ek, bk, ck, ik⟩

theorem refbitsz {z : Int} {L : List Int} {nn : Nat} {w : World} (hi : I64 z) (hL : bitsL z = L) (hn : L.length = nn) :
    Calls Tryd.prog 15 #[.int .i64 z] w fun e w' => ∃ A c, e = .returned (.slice A nn c) ∧ Hid (Now w' A L) ∧ nn ≤ c ∧ Below w.heap.size w w' := by
  refine (refBits_any z w hi).mono ?_
  rintro e w' ⟨v, rfl, hR, hb⟩
  rw [hL] at hR
  obtain ⟨A, c, rfl, hc, hN⟩ := hR
  rw [hn] at hc ⊢
  exact ⟨A, c, rfl, hN, hc, hb⟩
theorem ref_text {n : Int} {s : ByteArray} {w : World} (hi : I64 n) (hs : txt n = s) :
    Calls Tryd.prog 11 #[.int .i64 n] w fun e w' => e = .returned (.string s) ∧ Below w.heap.size w w' := by
  have := refText_any n w hi
  rwa [hs] at this
theorem ref_parse {s : ByteArray} {p q : Int} {w : World} (hs : s.size ≤ maxLen) (hp : parseL s.data.toList = (p, q)) :
    Calls Tryd.prog 17 #[.string s] w fun e w' => e = .returned (.tuple #[.int .i64 p, .int .i64 q]) ∧ Below w.heap.size w w' := by
  have := refParse_any s w hs
  rw [hp] at this
  exact this
theorem ref_sum {A : Option Addr} {l : List Int} {n c : Nat} {p q : Int} {w : World} (hp : sumL l = (p, q)) (hR : Now w A l) (hn : n = l.length) (hl : n ≤ 9223372036854775807) (hc : n ≤ c) (hw : ∀ x ∈ l, I64 x) :
    Calls Tryd.prog 19 #[.slice A n c] w fun e w' => e = .returned (.tuple #[.int .i64 p, .int .i64 q]) ∧ Below w.heap.size w w' := by
  subst hn
  have := refSum_any A l c w hR hl hc hw
  rw [hp] at this
  exact this
theorem size_app (a b : ByteArray) : (a ++ b).size = a.size + b.size := ByteArray.size_append
theorem size_ext (a : ByteArray) (i j : Nat) : (a.extract i j).size ≤ a.size := by
  rw [ByteArray.size_extract]
  omega

set_option maxHeartbeats 8000000 in
set_option maxRecDepth 100000 in
theorem countTells_walk (n : Int) (s : ByteArray) (aA : Option Addr) (any : List Int) (aC : Nat) (rA : Option Addr) (raw : List Int) (rC : Nat) (at_ : Int) (more : ByteArray) (w : World) (hn : I64 n) (hs : s.size ≤ 140737488355328) (hRa : Rd w w.heap.size aA any) (hla : any.length ≤ 9223372036854775807) (hca : any.length ≤ aC) (hwa : ∀ p ∈ any, I64 p)
    (hRr : Rd w w.heap.size rA raw) (hlr : raw.length ≤ 9223372036854775807) (hcr : raw.length ≤ rC) (hwr : ∀ p ∈ raw, I64 p) (hat : I64 at_) (hmore : more.size ≤ 140737488355328) (hT : Tab w) :
    Calls Tryd.prog 3 #[.int .i64 n, .string s, .slice aA any.length aC, .slice rA raw.length rC, .int .i64 at_, .string more] w fun e w' => e = .returned (.bool true) ∧ Below w.heap.size w w' := by
  have HN := Lib.hid hn
  have HWA := Lib.hid hwa
  have HWR := Lib.hid hwr
  have HAT := Lib.hid hat
  have HRA : Hid (Now w aA any) := hRa
  have HRR : Hid (Now w rA raw) := hRr
  have hp1 := fun W => pick_nat n 4611686018427387903 W hn (by omega) (by omega)
  have hp2 := fun W => pick_nat n 3000 W hn (by omega) (by omega)
  have b1 := pickI_bd n 4611686018427387903 (by omega)
  have b2 := pickI_bd n 3000 (by omega)
  generalize pickI n 4611686018427387903 = z1 at hp1 b1
  generalize pickI n 3000 = z2 at hp2 b2
  obtain ⟨x, hx⟩ : ∃ x, x = z1.toNat := ⟨_, rfl⟩
  obtain ⟨y, hy⟩ : ∃ y, y = z2.toNat := ⟨_, rfl⟩
  rw [← hx] at hp1
  rw [← hy] at hp2
  have hx9 : x < 4611686018427387903 := by omega
  have hy9 : y < 3000 := by omega
  clear b1 b2 hx hy hn hwa hwr hat hRa hRr
  go_enter Tryd.func3, Tryd.ntmps3
  go_wp2_with fail
  refine (awake_any w hT).mono ?_
  rintro e w1 ⟨rfl, hb1⟩
  have B1 := Lib.hid hb1
  clear hb1
  go_wp2_with fail
  refine (hp1 _).mono ?_
  rintro e w' ⟨rfl, rfl⟩
  go_wp2_with fail
  refine (hp2 _).mono ?_
  rintro e w' ⟨rfl, rfl⟩
  have HN0 := Lib.hid (now_three w1 3 n ((x : Int) + 1) (y : Int))
  have HXS : Hid (∀ k, k < 3 → I64 (([n, (x : Int) + 1, (y : Int)] : List Int).getD k 0)) := by
    intro k hk
    match k, hk with
    | 0, _ => exact HN.out
    | 1, _ => show I64 ((x : Int) + 1); unfold I64; omega
    | 2, _ => show I64 (y : Int); unfold I64; omega
  have hb2 : Below w1.heap.size w1 (w1.alloc (.cells #[.int .i64 n, .int .i64 ((x : Int) + 1), .int .i64 (y : Int)] 3)) := (Below.refl _ _).alloc (Nat.le_refl _) _
  have HB2 := Lib.hid (Qt.more B1.out B1.out.size hb2)
  clear hb2 hp1 hp2
  go_wp2
  go_loopw [41] (fun i wr => ∃ k : Nat, k ≤ 3 ∧ i = .int .i64 k ∧ Hid (Now wr (some ⟨w1.heap.size, 0, none⟩) [n, (x : Int) + 1, (y : Int)]) ∧ Hid (Below w.heap.size w wr)) (fun i _ => 3 - (intOf i).toNat)
  case atStart => exact ⟨0, by omega, rfl, HN0, HB2⟩
  case round =>
    obtain ⟨k, hk, rfl, HNX, HB⟩ := hrel
    clear HN0 HB2
    by_cases hlt : k < 3
    · have hltz : (k : Int) < 3 := by omega
      have hz64 := HXS.out k hlt
      obtain ⟨b, off, he, _, hc⟩ := HNX.out k hlt
      simp only [Option.some.injEq, Addr.mk.injEq, and_true] at he
      obtain ⟨rfl, rfl⟩ := he
      rw [Nat.zero_add] at hc
      generalize ([n, (x : Int) + 1, (y : Int)] : List Int).getD k 0 = z at hc hz64
      have HZ := Lib.hid hz64
      obtain ⟨t, ht⟩ : ∃ t, txt z = t := ⟨_, rfl⟩
      have hts : t.size ≤ 19 := by rw [← ht]; exact txt_size z
      obtain ⟨nb, hnb⟩ : ∃ nb, (bitsL z).length = nb := ⟨_, rfl⟩
      have hnb62 : nb ≤ 62 := by rw [← hnb]; exact bitsL_len z
      have HTX := Lib.hid ht
      have HNB := Lib.hid hnb
      clear ht hnb hz64
      go_wp2_with fail
      refine (ref_text HZ.out HTX.out).mono ?_
      rintro e w2 ⟨rfl, hb⟩
      have B2 := Lib.hid (Qt.more HB.out HB.out.size hb)
      have HT2 := Lib.hid (hT.below B2.out)
      have HN2 := Lib.hid (HNX.out.below hb)
      clear hb hc
      go_wp2_with fail
      refine (aw_text HZ.out HT2.out HTX.out).mono ?_
      rintro e w3 ⟨rfl, hb⟩
      have B3 := Lib.hid (Qt.more B2.out B2.out.size hb)
      have HN3 := Lib.hid (HN2.out.below hb)
      clear hb B2 HT2 HN2
      go_wp2_with fail
      refine (bitsz HZ.out rfl HNB.out).mono ?_
      rintro e w4 ⟨A4, c4, rfl, HL4, hc4, hb⟩
      have B4 := Lib.hid (Qt.more B3.out B3.out.size hb)
      have HN4 := Lib.hid (HN3.out.below hb)
      clear hb B3 HN3
      go_wp2_with fail
      refine (refbitsz HZ.out rfl HNB.out).mono ?_
      rintro e w5 ⟨A5, c5, rfl, HL5, hc5, hb⟩
      have B5 := Lib.hid (Qt.more B4.out B4.out.size hb)
      have HN5 := Lib.hid (HN4.out.below hb)
      have HL45 := Lib.hid (HL4.out.below hb)
      clear hb B4 HN4 HL4
      go_wp2_with fail
      refine (ints_yes HL45.out HL5.out HNB.out.symm HNB.out.symm (by omega) rfl).mono ?_
      rintro e w6 ⟨rfl, hb⟩
      have B6 := Lib.hid (Qt.more B5.out B5.out.size hb)
      have HN6 := Lib.hid (HN5.out.below hb)
      clear hb B5 HN5 HL45 HL5
      have hpk := fun W => pick_nat at_ ((t.size : Int) + 1) W HAT.out (by omega) (by omega)
      have hpb := pickI_bd at_ ((t.size : Int) + 1) (by omega)
      obtain ⟨kk, hkq⟩ : ∃ kk : Nat, kk = (pickI at_ ((t.size : Int) + 1)).toNat := ⟨_, rfl⟩
      rw [← hkq] at hpk
      have hkk : kk ≤ t.size := by omega
      clear hpb hkq
      go_wp2_with fail
      refine (hpk _).mono ?_
      rintro e w' ⟨rfl, rfl⟩
      clear hpk
      have htz : t.size ≤ 9223372036854775807 := by omega
      obtain ⟨s1, hs1⟩ : ∃ s1, s1 = t.extract 0 kk := ⟨_, rfl⟩
      obtain ⟨s2, hs2⟩ : ∃ s2, s2 = t.extract kk t.size := ⟨_, rfl⟩
      obtain ⟨s3, hs3⟩ : ∃ s3, s3 = t.extract (min (kk + more.size) t.size) t.size := ⟨_, rfl⟩
      have hq1 : s1.size ≤ 19 := Nat.le_trans (by rw [hs1]; exact size_ext _ _ _) hts
      have hq2 : s2.size ≤ 19 := Nat.le_trans (by rw [hs2]; exact size_ext _ _ _) hts
      have hq3 : s3.size ≤ 19 := Nat.le_trans (by rw [hs3]; exact size_ext _ _ _) hts
      obtain ⟨a1, ha1⟩ : ∃ a1, a1 = s1 ++ more := ⟨_, rfl⟩
      have hqa : a1.size = s1.size + more.size := by rw [ha1]; exact size_app _ _
      obtain ⟨b1, hb1⟩ : ∃ b1, b1 = a1 ++ s2 := ⟨_, rfl⟩
      have hqb1 : b1.size = a1.size + s2.size := by rw [hb1]; exact size_app _ _
      obtain ⟨b2, hb2⟩ : ∃ b2, b2 = a1 ++ s3 := ⟨_, rfl⟩
      have hqb2 : b2.size = a1.size + s3.size := by rw [hb2]; exact size_app _ _
      obtain ⟨c1, hc1⟩ : ∃ c1, c1 = t ++ t := ⟨_, rfl⟩
      have hqc : c1.size = t.size + t.size := by rw [hc1]; exact size_app _ _
      have hz1 : s1.size + more.size ≤ 9223372036854775807 := by omega
      have hz2 : a1.size + s2.size ≤ 9223372036854775807 := by omega
      have hz3 : kk + more.size ≤ 9223372036854775807 := by omega
      have hz4 : a1.size + s3.size ≤ 9223372036854775807 := by omega
      have hz5 : t.size + t.size ≤ 9223372036854775807 := by omega
      have HYS : Hid (∀ j, j < 5 → (([s, t, b1, b2, c1] : List ByteArray).getD j default).size ≤ maxLen) := by
        intro j hj
        unfold maxLen
        match j, hj with
        | 0, _ => show s.size ≤ _; omega
        | 1, _ => show t.size ≤ _; omega
        | 2, _ => show b1.size ≤ _; omega
        | 3, _ => show b2.size ≤ _; omega
        | 4, _ => show c1.size ≤ _; omega
      have HS1 := Lib.hid hs1
      have HS2 := Lib.hid hs2
      have HS3 := Lib.hid hs3
      have HA1 := Lib.hid ha1
      have HB1 := Lib.hid hb1
      have HB2 := Lib.hid hb2
      have HC1 := Lib.hid hc1
      clear hs1 hs2 hs3 ha1 hb1 hb2 hc1 hq1 hq2 hq3 hqa hqb1 hqb2 hqc
      go_wp2_with fail
      refine Qt.region_script [(true, 0), (true, 1), (true, 2), (true, 3), (true, 4), (true, 5), (true, 6), (true, 7), (true, 8), (true, 9), (true, 10), (true, 11), (true, 12), (true, 13), (true, 14), (true, 15), (true, 16), (true, 17), (true, 18), (true, 19), (true, 20), (true, 21), (true, 22), (true, 23), (true, 24), (true, 25), (true, 26), (true, 27), (true, 28), (true, 31), (false, 29), (true, 30)] (by kernel_rfl) (by kernel_rfl) (by kernel_rfl) rfl ?_
      refine ⟨_, some 64, .string s, rfl, rfl, ⟨rfl, fun _ => rfl⟩, ?_⟩
      simp only [Act.put, List.setIfInBounds_toArray, List.set_cons_succ, List.set_cons_zero]
      refine ⟨_, some 65, .string t, rfl, rfl, ⟨rfl, fun _ => rfl⟩, ?_⟩
      simp only [Act.put, List.setIfInBounds_toArray, List.set_cons_succ, List.set_cons_zero]
      refine ⟨_, some 66, .string t, rfl, rfl, ⟨rfl, fun _ => rfl⟩, ?_⟩
      simp only [Act.put, List.setIfInBounds_toArray, List.set_cons_succ, List.set_cons_zero]
      refine ⟨_, some 67, .int .i64 (kk : Int), rfl, rfl, ⟨rfl, fun _ => rfl⟩, ?_⟩
      simp only [Act.put, List.setIfInBounds_toArray, List.set_cons_succ, List.set_cons_zero]
      refine ⟨_, some 68, .string s1, rfl, rfl, ⟨rfl, fun w => by rw [HS1.out]; exact exec_str_to (x := .tmp 66) (y := .tmp 67) rfl rfl rfl hkk htz w⟩, ?_⟩
      simp only [Act.put, List.setIfInBounds_toArray, List.set_cons_succ, List.set_cons_zero]
      refine ⟨_, some 69, .string more, rfl, rfl, ⟨rfl, fun _ => rfl⟩, ?_⟩
      simp only [Act.put, List.setIfInBounds_toArray, List.set_cons_succ, List.set_cons_zero]
      refine ⟨_, some 70, .string a1, rfl, rfl, ⟨rfl, fun w => by rw [HA1.out]; exact exec_add (x := .tmp 68) (y := .tmp 69) rfl rfl rfl hz1 w⟩, ?_⟩
      simp only [Act.put, List.setIfInBounds_toArray, List.set_cons_succ, List.set_cons_zero]
      refine ⟨_, some 71, .string t, rfl, rfl, ⟨rfl, fun _ => rfl⟩, ?_⟩
      simp only [Act.put, List.setIfInBounds_toArray, List.set_cons_succ, List.set_cons_zero]
      refine ⟨_, some 72, .int .i64 (kk : Int), rfl, rfl, ⟨rfl, fun _ => rfl⟩, ?_⟩
      simp only [Act.put, List.setIfInBounds_toArray, List.set_cons_succ, List.set_cons_zero]
      refine ⟨_, some 73, .string s2, rfl, rfl, ⟨rfl, fun w => by rw [HS2.out]; exact exec_str_from (x := .tmp 71) (y := .tmp 72) rfl rfl rfl hkk htz w⟩, ?_⟩
      simp only [Act.put, List.setIfInBounds_toArray, List.set_cons_succ, List.set_cons_zero]
      refine ⟨_, some 74, .string b1, rfl, rfl, ⟨rfl, fun w => by rw [HB1.out]; exact exec_add (x := .tmp 70) (y := .tmp 73) rfl rfl rfl hz2 w⟩, ?_⟩
      simp only [Act.put, List.setIfInBounds_toArray, List.set_cons_succ, List.set_cons_zero]
      refine ⟨_, some 75, .string t, rfl, rfl, ⟨rfl, fun _ => rfl⟩, ?_⟩
      simp only [Act.put, List.setIfInBounds_toArray, List.set_cons_succ, List.set_cons_zero]
      refine ⟨_, some 76, .int .i64 (kk : Int), rfl, rfl, ⟨rfl, fun _ => rfl⟩, ?_⟩
      simp only [Act.put, List.setIfInBounds_toArray, List.set_cons_succ, List.set_cons_zero]
      refine ⟨_, some 77, .string s1, rfl, rfl, ⟨rfl, fun w => by rw [HS1.out]; exact exec_str_to (x := .tmp 75) (y := .tmp 76) rfl rfl rfl hkk htz w⟩, ?_⟩
      simp only [Act.put, List.setIfInBounds_toArray, List.set_cons_succ, List.set_cons_zero]
      refine ⟨_, some 78, .string more, rfl, rfl, ⟨rfl, fun _ => rfl⟩, ?_⟩
      simp only [Act.put, List.setIfInBounds_toArray, List.set_cons_succ, List.set_cons_zero]
      refine ⟨_, some 79, .string a1, rfl, rfl, ⟨rfl, fun w => by rw [HA1.out]; exact exec_add (x := .tmp 77) (y := .tmp 78) rfl rfl rfl hz1 w⟩, ?_⟩
      simp only [Act.put, List.setIfInBounds_toArray, List.set_cons_succ, List.set_cons_zero]
      refine ⟨_, some 80, .string t, rfl, rfl, ⟨rfl, fun _ => rfl⟩, ?_⟩
      simp only [Act.put, List.setIfInBounds_toArray, List.set_cons_succ, List.set_cons_zero]
      refine ⟨_, some 81, .int .i64 (kk : Int), rfl, rfl, ⟨rfl, fun _ => rfl⟩, ?_⟩
      simp only [Act.put, List.setIfInBounds_toArray, List.set_cons_succ, List.set_cons_zero]
      refine ⟨_, some 82, .string more, rfl, rfl, ⟨rfl, fun _ => rfl⟩, ?_⟩
      simp only [Act.put, List.setIfInBounds_toArray, List.set_cons_succ, List.set_cons_zero]
      refine ⟨_, some 83, .int .i64 (more.size : Int), rfl, rfl, ⟨rfl, exec_len (x := .tmp 82) rfl rfl rfl⟩, ?_⟩
      simp only [Act.put, List.setIfInBounds_toArray, List.set_cons_succ, List.set_cons_zero]
      refine ⟨_, some 84, .int .i64 ((kk + more.size : Nat) : Int), rfl, rfl, ⟨rfl, exec_addi (x := .tmp 81) (y := .tmp 83) rfl rfl rfl hz3⟩, ?_⟩
      simp only [Act.put, List.setIfInBounds_toArray, List.set_cons_succ, List.set_cons_zero]
      refine ⟨_, some 85, .string t, rfl, rfl, ⟨rfl, fun _ => rfl⟩, ?_⟩
      simp only [Act.put, List.setIfInBounds_toArray, List.set_cons_succ, List.set_cons_zero]
      refine ⟨_, some 86, .int .i64 (t.size : Int), rfl, rfl, ⟨rfl, exec_len (x := .tmp 85) rfl rfl rfl⟩, ?_⟩
      simp only [Act.put, List.setIfInBounds_toArray, List.set_cons_succ, List.set_cons_zero]
      refine ⟨_, some 87, .int .i64 ((min (kk + more.size) t.size : Nat) : Int), rfl, rfl, ⟨rfl, exec_min (x := .tmp 84) (y := .tmp 86) rfl rfl rfl rfl⟩, ?_⟩
      simp only [Act.put, List.setIfInBounds_toArray, List.set_cons_succ, List.set_cons_zero]
      refine ⟨_, some 88, .string s3, rfl, rfl, ⟨rfl, fun w => by rw [HS3.out]; exact exec_str_from (x := .tmp 80) (y := .tmp 87) rfl rfl rfl (Nat.min_le_right _ _) htz w⟩, ?_⟩
      simp only [Act.put, List.setIfInBounds_toArray, List.set_cons_succ, List.set_cons_zero]
      refine ⟨_, some 89, .string b2, rfl, rfl, ⟨rfl, fun w => by rw [HB2.out]; exact exec_add (x := .tmp 79) (y := .tmp 88) rfl rfl rfl hz4 w⟩, ?_⟩
      simp only [Act.put, List.setIfInBounds_toArray, List.set_cons_succ, List.set_cons_zero]
      refine ⟨_, some 90, .string t, rfl, rfl, ⟨rfl, fun _ => rfl⟩, ?_⟩
      simp only [Act.put, List.setIfInBounds_toArray, List.set_cons_succ, List.set_cons_zero]
      refine ⟨_, some 91, .string t, rfl, rfl, ⟨rfl, fun _ => rfl⟩, ?_⟩
      simp only [Act.put, List.setIfInBounds_toArray, List.set_cons_succ, List.set_cons_zero]
      refine ⟨_, some 92, .string c1, rfl, rfl, ⟨rfl, fun w => by rw [HC1.out]; exact exec_add (x := .tmp 90) (y := .tmp 91) rfl rfl rfl hz5 w⟩, ?_⟩
      simp only [Act.put, List.setIfInBounds_toArray, List.set_cons_succ, List.set_cons_zero]
      refine ⟨_, some 95, .int .i64 0, rfl, rfl, ⟨rfl, fun _ => rfl⟩, ?_⟩
      simp only [Act.put, List.setIfInBounds_toArray, List.set_cons_succ, List.set_cons_zero]
      refine ⟨_, rfl, ?_⟩
      have HST : Hid (Strs (w6.drew.alloc (.cells #[.string s, .string t, .string b1, .string b2, .string c1] 9)) w6.heap.size [s, t, b1, b2, c1]) := strs_new w6.drew 9 s t b1 b2 c1
      have HBW : Hid (Below w6.heap.size w6 (w6.drew.alloc (.cells #[.string s, .string t, .string b1, .string b2, .string c1] 9))) := (show Below w6.heap.size w6 w6.drew from ⟨rfl, rfl, rfl, Nat.le_refl _, fun _ _ => rfl⟩).alloc (Nat.le_refl _) _
      clear HS1 HS2 HS3 HA1 HB1 HB2 HC1 hz1 hz2 hz3 hz4 hz5
      go_wp2_with fail
      refine ⟨rfl, ?_⟩
      refine ⟨_, some 94, .int .i64 5, rfl, rfl, ⟨rfl, exec_len_sl (k := 5) (x := .tmp 93) rfl rfl rfl⟩, ?_⟩
      simp only [Qt.scriptW, Act.put, List.setIfInBounds_toArray, List.set_cons_succ, List.set_cons_zero]
      have B7 := Lib.hid (Qt.more B6.out B6.out.size HBW.out)
      have HN7 := Lib.hid (HN6.out.below HBW.out)
      clear HBW B6 HN6
      go_wp2
      go_loopw [95] (fun i wr => ∃ j : Nat, j ≤ 5 ∧ i = .int .i64 j ∧ Hid (Strs wr w6.heap.size [s, t, b1, b2, c1]) ∧ Hid (Now wr (some ⟨w1.heap.size, 0, none⟩) [n, (x : Int) + 1, (y : Int)]) ∧ Hid (Below w.heap.size w wr)) (fun i _ => 5 - (intOf i).toNat)
      case atStart => exact ⟨0, by omega, rfl, HST, HN7, B7⟩
      case round =>
        obtain ⟨j, hj, rfl, HSJ, HNJ, HBJ⟩ := hrel
        clear HST HN7 B7
        by_cases hjt : j < 5
        · have hjz : (j : Int) < 5 := by omega
          have c0 := HSJ.out.2 j hjt
          have hyz := HYS.out j hjt
          generalize ([s, t, b1, b2, c1] : List ByteArray).getD j default = yy at c0 hyz
          have HYZ := Lib.hid hyz
          obtain ⟨⟨p, q⟩, hpq⟩ : ∃ r, parseL yy.data.toList = r := ⟨_, rfl⟩
          have HPQ := Lib.hid hpq
          clear hyz hpq
          go_wp2_with fail
          refine (aw_parse HYZ.out HPQ.out).mono ?_
          rintro e w8 ⟨rfl, hb⟩
          have B8 := Lib.hid (Qt.more HBJ.out HBJ.out.size hb)
          have HS8 := Lib.hid (HSJ.out.below hb)
          have HN8 := Lib.hid (HNJ.out.below hb)
          clear hb c0
          go_wp2_with fail
          refine (ref_parse HYZ.out HPQ.out).mono ?_
          rintro e w9 ⟨rfl, hb⟩
          have B9 := Lib.hid (Qt.more B8.out B8.out.size hb)
          have HS9 := Lib.hid (HS8.out.below hb)
          have HN9 := Lib.hid (HN8.out.below hb)
          clear hb B8 HS8 HN8
          go_wp2
          go_roundw
          case measure => simp [intOf]; omega
          case rel => exact ⟨j + 1, by omega, by go_num, HS9, HN9, B9⟩
        · have hjz : ¬ (j : Int) < 5 := by omega
          go_wp2
          go_roundw
          case measure => simp [intOf]; omega
          case rel => exact ⟨k + 1, by omega, by go_num, HNJ, HBJ⟩
    · have hltz : ¬ (k : Int) < 3 := by omega
      rename World => W
      have HRR2 := Lib.hid (HRR.out.below HB.out)
      have HRA2 := Lib.hid (HRA.out.below HB.out)
      clear HNX HXS HRR HRA hlt
      go_wp2
      go_loopw [24, 25] (fun v i wr => ∃ k : Nat, k ≤ raw.length ∧ k ≤ 70 ∧ i = .int .i64 k ∧ Hid (Own wr W.heap.size v (rawTo 62 raw k)) ∧ Hid (Below W.heap.size W wr)) (fun _ i _ => 70 - (intOf i).toNat)
      case atStart => exact ⟨0, Nat.zero_le _, Nat.zero_le _, rfl, World.ownsRow_nil _ _ _ _, Below.refl _ _⟩
      case round =>
        obtain ⟨m, hm, hm70, rfl, HO, HBF⟩ := hrel
        by_cases hlt : m < raw.length ∧ m < 70
        · obtain ⟨hlt1, hlt2⟩ := hlt
          have hmz : (m : Int) < (raw.length : Int) := by omega
          obtain ⟨b, off, rfl, _, hcell⟩ := (HRR2.out).at_ (by omega)
          have c0 := Qt.keep HBF.out (hcell m hlt1)
          have hx64 := HWR.out _ (getD_mem hlt1)
          have hup := rawTo_succ (d := 62) hlt1
          obtain ⟨z, hz⟩ : ∃ z, z = raw.getD m 0 := ⟨_, rfl⟩
          rw [← hz] at c0 hx64 hup
          obtain ⟨v', w', hrun, hown, hb2⟩ := push_any (pickI z 62) HBF.out.size HO.out (by rw [length_rawTo]; omega)
          have HUP := Lib.hid hup
          have HO2 := Lib.hid hown
          have HRUN := Lib.hid hrun
          have HB2 := Lib.hid (HBF.out.trans hb2)
          have HZ := Lib.hid hx64
          clear hup hown hrun hb2 hcell hz hx64
          go_wp2_with (first
            | (go_at_call 10; refine (pick_any z 62 _ HZ.out.1 HZ.out.2 (by omega) (by omega)).mono ?_; rintro e w' ⟨rfl, rfl⟩)
            | (at_builtin; refine Lib.wpList_append_run _ rfl (.tmp 129) (.tmp 135) 22 22 rfl _ _ rfl rfl _ _ HRUN.out ?_))
          go_roundw
          case measure => simp [intOf]; omega
          case rel => exact ⟨m + 1, by omega, by omega, by go_num, (by rw [HUP.out]; exact HO2.out), HB2⟩
        · have hbd := rawTo_bd (d := 62) (by omega) (raw := raw) (k := m)
          have hlen := length_rawTo 62 raw m
          have hown := HO.out
          obtain ⟨l, hl2⟩ : ∃ l, l = rawTo 62 raw m := ⟨_, rfl⟩
          rw [← hl2] at hbd hlen hown
          clear HO hl2
          obtain ⟨A2, c2, rfl, hc2, hm2, hN, hSh⟩ := own_parts hown
          have hl70 : l.length ≤ 70 := by omega
          obtain ⟨t, htl, hmin⟩ : ∃ t : Nat, t ≤ l.length ∧ min (l.length : Int) 3 = (t : Int) := ⟨min l.length 3, by omega, by omega⟩
          have hto := slice_to hSh htl hc2 hm2
          have HI : Hid (∀ e ∈ l, I64 e) := fun e he => by have := hbd e he; exact i64_small (by omega)
          have HI1 : Hid (∀ e ∈ l.take t, I64 e) := fun e he => HI.out e (List.mem_of_mem_take he)
          have HT1 : Hid (t = (l.take t).length) := by show t = _; rw [List.length_take]; omega
          have HNL := Lib.hid hN
          have HRA3 := Lib.hid (HRA2.out.below HBF.out)
          have htc : t ≤ c2 := by omega
          obtain ⟨nl, hnl⟩ : ∃ nl, nl = l.length := ⟨_, rfl⟩
          rw [← hnl] at hto hc2 hl70 htl hmin ⊢
          have HLL := Lib.hid hnl
          have HLS := Lib.hid (lists_new wr 22 HRA3.out HNL.out (now_take HNL.out t) rfl hnl HT1.out hla (by omega) (by omega) hca hc2 htc HWA.out HI.out HI1.out)
          have HBW : Hid (Below W.heap.size W (wr.alloc (.cells #[.slice aA any.length aC, .slice A2 nl c2, .slice A2 t c2] 22))) := HBF.out.alloc HBF.out.size _
          have hdec : (¬ (m : Int) < (raw.length : Int)) ∨ ((m : Int) < (raw.length : Int) ∧ ¬ (m : Int) < 70) := by omega
          clear hlt hlen hown hSh hN hnl hbd hm2 HI HI1 HT1
          rename World => W2
          rcases hdec with hd1 | ⟨hd1, hd2⟩
          all_goals
            go_wp2
            go_loopw [146] (fun i wr => ∃ j : Nat, j ≤ 3 ∧ i = .int .i64 j ∧ Hid (Lists wr W2.heap.size 3) ∧ Hid (Below W.heap.size W wr)) (fun i _ => 3 - (intOf i).toNat)
            case atStart => exact ⟨0, by omega, rfl, HLS, HBW⟩
            case round =>
              obtain ⟨j, hj, rfl, HLJ, HBJ⟩ := hrel
              by_cases hjt : j < 3
              · have hjz : (j : Int) < 3 := by omega
                obtain ⟨A9, n9, c9, l9, h0, h1, h2, h3, h4, h5⟩ := HLJ.out.2 j hjt
                obtain ⟨⟨p, q⟩, hpq⟩ : ∃ r, sumL l9 = r := ⟨_, rfl⟩
                have HPQ := Lib.hid hpq
                have H1 := Lib.hid h1
                have H2 := Lib.hid h2
                have H5 := Lib.hid h5
                clear hpq h1 h2 h5
                go_wp2_with fail
                refine (aw_sum HPQ.out H1.out H2.out h3 h4 H5.out).mono ?_
                rintro e w8 ⟨rfl, hb⟩
                have B8 := Lib.hid (Qt.more HBJ.out HBJ.out.size hb)
                have HL8 := Lib.hid (HLJ.out.below hb)
                have H8 := Lib.hid (H1.out.below hb)
                clear hb h0
                go_wp2_with fail
                refine (ref_sum HPQ.out H8.out H2.out h3 h4 H5.out).mono ?_
                rintro e w9 ⟨rfl, hb⟩
                have B9 := Lib.hid (Qt.more B8.out B8.out.size hb)
                have HL9 := Lib.hid (HL8.out.below hb)
                clear hb B8 HL8 H8
                go_wp2
                go_roundw
                case measure => simp [intOf]; omega
                case rel => exact ⟨j + 1, by omega, by go_num, HL9, B9⟩
              · have hjz : ¬ (j : Int) < 3 := by omega
                go_wp2
                go_ret
                exact ⟨rfl, Qt.more HB.out HB.out.size HBJ.out⟩

end Go.Proofs.YtkmcleekiienmaaDoor
