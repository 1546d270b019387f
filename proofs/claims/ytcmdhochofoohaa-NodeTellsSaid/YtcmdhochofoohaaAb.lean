/-
  The law NodeTells.
-/
import Derived.Test.YtcmdhochofoohaaAa
import Derived.Test.YtcmdhochofoohaaAd
import Derived.Test.YtcmdhochofoohaaB09
import Derived.Test.YtcmdhochofoohaaRq
namespace Go.Proofs.Ytcmdhochofoohaa
set_option linter.unusedVariables false
set_option linter.unusedSimpArgs false
open Go.RowKit Go.Sort

theorem nodeNew_any (room : Int) (w : World) : Calls Try.prog 13 #[.int .i64 room] w (StoreR (newL room) (newRoom room) w) := by
  unfold newL newRoom
  by_cases hb : 2 ≤ room ∧ room ≤ 100000
  · rw [if_pos hb, if_pos hb]
    refine (new_yes room w hb).mono ?_
    rintro e w' ⟨g, rfl, _, ho, hb⟩
    exact ⟨_, rfl, ho.reads, hb⟩
  · rw [if_neg hb, if_neg hb]
    refine (new_no room w hb).mono ?_
    rintro e w' ⟨rfl, hb⟩
    exact ⟨_, rfl, ⟨none, 0, rfl, Nat.le_refl _, fun j hj => absurd hj (Nat.not_lt_zero j)⟩, hb⟩
/-- What the law keeps: its three boxes, its roots. -/
structure NtAt (w W : World) (b0 : Nat) (A : Option Addr) (l : List Nd) (c : Nat) (ro : Int) (k : Kd) (r : Raw5) (Ar : Option Addr) (roots : List Int) : Prop where
  any : StB W b0 A l c ro
  kd : KdB W (b0 + 1) k
  raw : RawB W (b0 + 1 + 1) r
  rt : Now W Ar roots
  bel : Below b0 w W
theorem NtAt.below {w W W' : World} {b0 : Nat} {A : Option Addr} {l : List Nd} {c : Nat} {ro : Int} {k : Kd} {r : Raw5} {Ar : Option Addr} {roots : List Int} (h : NtAt w W b0 A l c ro k r Ar roots) (hb : Below W.heap.size W W') : NtAt w W' b0 A l c ro k r Ar roots :=
  ⟨h.any.below hb, h.kd.below hb, h.raw.below hb, h.rt.below hb, h.bel.trans (hb.mono (by have := lt_heap6 h.any.row; omega))⟩
/-- A store of the two that the law speaks of. -/
structure TwoB (W : World) (b : Nat) (A : Option Addr) (l : List Nd) (c : Nat) (ro : Int) (A' : Option Addr) (l' : List Nd) (c' : Nat) (ro' : Int) : Prop where
  row : W.heap[b]? = some (.cells #[.slice A l.length c, .int .i64 ro, .slice A' l'.length c', .int .i64 ro'] 25 (0, 0))
  r1 : NowN W A l
  r2 : NowN W A' l'
theorem TwoB.below {W W' : World} {b : Nat} {A : Option Addr} {l : List Nd} {c : Nat} {ro : Int} {A' : Option Addr} {l' : List Nd} {c' : Nat} {ro' : Int} (h : TwoB W b A l c ro A' l' c' ro') (hb : Below W.heap.size W W') : TwoB W' b A l c ro A' l' c' ro' :=
  ⟨(hb.block _ (lt_heap6 h.row)).trans h.row, h.r1.below hb, h.r2.below hb⟩
theorem TwoB.one {W : World} {b : Nat} {A : Option Addr} {l : List Nd} {c : Nat} {ro : Int} {A' : Option Addr} {l' : List Nd} {c' : Nat} {ro' : Int} (h : TwoB W b A l c ro A' l' c' ro') (hc : l.length ≤ c) (hc' : l'.length ≤ c') (P : List Nd → Prop) (hP : P l) (hP' : P l') {j : Nat} (hj : j < 2) :
    ∃ As ls cs rs, W.cell? ⟨b, j * 2, none⟩ = some (.slice As ls.length cs) ∧ W.cell? ⟨b, j * 2 + 1, none⟩ = some (.int .i64 rs) ∧ NowN W As ls ∧ ls.length ≤ cs ∧ P ls := by
  rcases (by omega : j = 0 ∨ j = 1) with rfl | rfl
  · exact ⟨A, l, c, ro, by rw [Lib.cell_of_heap h.row]; rfl, by rw [Lib.cell_of_heap h.row]; rfl, h.r1, hc, hP⟩
  · exact ⟨A', l', c', ro', by rw [Lib.cell_of_heap h.row]; rfl, by rw [Lib.cell_of_heap h.row]; rfl, h.r2, hc', hP'⟩
theorem Now.take {W : World} {A : Option Addr} {l : List Int} (h : Now W A l) (n : Nat) : Now W A (l.take n) := fun j hj => by
  rw [List.length_take] at hj
  obtain ⟨b, off, e, hb, hc⟩ := h j (by omega)
  refine ⟨b, off, e, hb, ?_⟩
  rw [hc, List.getD_eq_getElem?_getD, List.getD_eq_getElem?_getD, List.getElem?_take, if_pos (by omega)]
theorem addr_add0 (A : Option Addr) : A.map (·.add 0) = A := by
  cases A with
  | none => rfl
  | some a => rfl
theorem slice_to6 {A : Option Addr} {n c t : Nat} (ht : t ≤ c) (W : World) :
    (Instr.slice 28 (.slice A n c) none (some (.int .i64 (t : Int))) none).run Try.prog W = .ok (.slice A t c) W := by
  have hz : (t : Int) ≤ (c : Int) := by omega
  go_simp
  first | done | (rw [addr_add0]; simp) | simp [addr_add0]
/-- Three slices of numbers. -/
structure SlsB (W : World) (b : Nat) (A : Option Addr) (l : List Int) (c : Nat) (A' : Option Addr) (l' : List Int) (c' : Nat) : Prop where
  row : W.heap[b]? = some (.cells #[.slice A l.length c, .slice A' l'.length c', .slice none 0 0] 28 (0, 0))
  r1 : Now W A l
  r2 : Now W A' l'
theorem SlsB.below {W W' : World} {b : Nat} {A : Option Addr} {l : List Int} {c : Nat} {A' : Option Addr} {l' : List Int} {c' : Nat} (h : SlsB W b A l c A' l' c') (hb : Below W.heap.size W W') : SlsB W' b A l c A' l' c' := ⟨(hb.block _ (lt_heap6 h.row)).trans h.row, h.r1.below hb, h.r2.below hb⟩
theorem SlsB.one {W : World} {b : Nat} {A : Option Addr} {l : List Int} {c : Nat} {A' : Option Addr} {l' : List Int} {c' : Nat} (h : SlsB W b A l c A' l' c') (P : List Int → Prop) (h1 : P l) (h2 : P l') (h3 : P []) {m : Nat} (hm : m < 3) : ∃ B Rl d, W.cell? ⟨b, m, none⟩ = some (.slice B Rl.length d) ∧ Now W B Rl ∧ P Rl := by
  rcases (by omega : m = 0 ∨ m = 1 ∨ m = 2) with rfl | rfl | rfl
  · exact ⟨A, l, c, by rw [Lib.cell_of_heap h.row]; rfl, h.r1, h1⟩
  · exact ⟨A', l', c', by rw [Lib.cell_of_heap h.row]; rfl, h.r2, h2⟩
  · exact ⟨none, [], 0, by rw [Lib.cell_of_heap h.row]; rfl, now_nil _ _, h3⟩
theorem put6_len (l : List Nd) (room : Int) (k : Kd) : (put6 l room k).1.length ≤ l.length + 1 := by
  unfold put6
  split
  · exact Nat.le_succ _
  · split
    · exact Nat.le_succ _
    · split
      · exact Nat.le_succ _
      · split
        · exact Nat.le_succ _
        · show (l ++ [_]).length ≤ _
          rw [List.length_append, List.length_singleton]
          exact Nat.le_refl _
theorem intern6_len (l : List Nd) (room : Int) (k : Kd) : (intern6 l room k).1.length ≤ l.length + 1 := by
  unfold intern6
  split
  · exact put6_len l room k
  · exact Nat.le_succ _
theorem emptyTo_len (l : List Nd) (room : Int) : ∀ j, (emptyTo l room j).1.length ≤ l.length + j
  | 0 => Nat.le_refl _
  | j + 1 => by
    have h := emptyTo_len l room j
    unfold emptyTo
    split
    · have := put6_len (emptyTo l room j).1 room ((emptyTo l room j).2.1, (emptyTo l room j).2.1, (emptyTo l room j).2.1, (emptyTo l room j).2.1)
      omega
    · omega
theorem empty6_len (l : List Nd) (room lev : Int) : (empty6 l room lev).1.length ≤ l.length + 42 := by
  unfold empty6
  split
  · next h =>
    simp only [Bool.and_eq_true, decide_eq_true_eq] at h
    split
    · have := emptyTo_len l room lev.toNat
      omega
    · exact Nat.le_add_right _ _
  · exact Nat.le_add_right _ _
theorem live6_len (l : List Nd) (room : Int) (R : List Int) : (live6 l room R).1.length ≤ l.length ∧ (live6 l room R).2.1.length ≤ R.length := by
  unfold live6
  split
  · refine ⟨?_, ?_⟩
    · show (newTo l (keepF l R) l.length).length ≤ _
      rw [newTo_len]
      exact cnt_le _ _
    · show (R.map _).length ≤ _
      rw [List.length_map]
      exact Nat.le_refl _
  · exact ⟨Nat.le_refl _, Nat.zero_le _⟩
/-- All that is kept in the round of a store. -/
structure EnvB (w W : World) (b0 : Nat) (Aa : Option Addr) (la : List Nd) (ca : Nat) (ra : Int) (kk : Kd) (r : Raw5) (Ar : Option Addr) (roots : List Int) (bs : Nat) (A2 : Option Addr) (l : List Nd) (c2 : Nat) (R : Int) (bx : Nat) (As : Option Addr) (ls : List Nd) (cs : Nat) (rs : Int) : Prop where
  nt : NtAt w W b0 Aa la ca ra kk r Ar roots
  two : TwoB W bs A2 l c2 R Aa la ca ra
  st : StB W bx As ls cs rs
theorem EnvB.below {w W W' : World} {b0 : Nat} {Aa : Option Addr} {la : List Nd} {ca : Nat} {ra : Int} {kk : Kd} {r : Raw5} {Ar : Option Addr} {roots : List Int} {bs : Nat} {A2 : Option Addr} {l : List Nd} {c2 : Nat} {R : Int} {bx : Nat} {As : Option Addr} {ls : List Nd} {cs : Nat} {rs : Int} (h : EnvB w W b0 Aa la ca ra kk r Ar roots bs A2 l c2 R bx As ls cs rs) (hb : Below W.heap.size W W') : EnvB w W' b0 Aa la ca ra kk r Ar roots bs A2 l c2 R bx As ls cs rs :=
  ⟨h.nt.below hb, h.two.below hb, h.st.below hb⟩
/-- Four kids, twice. -/
structure KdsB (W : World) (b : Nat) (k k' : Kd) : Prop where
  row : W.heap[b]? = some (.cells #[.int .i64 k.1, .int .i64 k.2.1, .int .i64 k.2.2.1, .int .i64 k.2.2.2, .int .i64 k'.1, .int .i64 k'.2.1, .int .i64 k'.2.2.1, .int .i64 k'.2.2.2] 26 (0, 0))
theorem KdsB.below {W W' : World} {b : Nat} {k k' : Kd} (h : KdsB W b k k') (hb : Below W.heap.size W W') : KdsB W' b k k' := ⟨(hb.block _ (lt_heap6 h.row)).trans h.row⟩
theorem KdsB.one {W : World} {b : Nat} {k k' : Kd} (h : KdsB W b k k') {m : Nat} (hm : m < 2) : ∃ x : Kd, W.cell? ⟨b, m * 4, none⟩ = some (.int .i64 x.1) ∧ W.cell? ⟨b, m * 4 + 1, none⟩ = some (.int .i64 x.2.1) ∧ W.cell? ⟨b, m * 4 + 2, none⟩ = some (.int .i64 x.2.2.1) ∧ W.cell? ⟨b, m * 4 + 3, none⟩ = some (.int .i64 x.2.2.2) := by
  rcases (by omega : m = 0 ∨ m = 1) with rfl | rfl
  · exact ⟨k, by rw [Lib.cell_of_heap h.row]; rfl, by rw [Lib.cell_of_heap h.row]; rfl, by rw [Lib.cell_of_heap h.row]; rfl, by rw [Lib.cell_of_heap h.row]; rfl⟩
  · exact ⟨k', by rw [Lib.cell_of_heap h.row]; rfl, by rw [Lib.cell_of_heap h.row]; rfl, by rw [Lib.cell_of_heap h.row]; rfl, by rw [Lib.cell_of_heap h.row]; rfl⟩
/-- Two numbers. -/
structure IntsB (W : World) (b : Nat) (x y : Int) : Prop where
  row : W.heap[b]? = some (.cells #[.int .i64 x, .int .i64 y] 3 (0, 0))
theorem IntsB.below {W W' : World} {b : Nat} {x y : Int} (h : IntsB W b x y) (hb : Below W.heap.size W W') : IntsB W' b x y := ⟨(hb.block _ (lt_heap6 h.row)).trans h.row⟩
theorem IntsB.one {W : World} {b : Nat} {x y : Int} (h : IntsB W b x y) {m : Nat} (hm : m < 2) : ∃ v : Int, W.cell? ⟨b, m, none⟩ = some (.int .i64 v) := by
  rcases (by omega : m = 0 ∨ m = 1) with rfl | rfl
  · exact ⟨x, by rw [Lib.cell_of_heap h.row]; rfl⟩
  · exact ⟨y, by rw [Lib.cell_of_heap h.row]; rfl⟩

set_option maxHeartbeats 16000000 in
set_option maxRecDepth 100000 in
theorem nodeTells_law (room : Int) (A : Option Addr) (raw : List Raw5) (c : Nat) (Aa : Option Addr) (la : List Nd) (ca : Nat) (ra : Int) (kk : Kd) (r : Raw5) (level : Int) (Ar : Option Addr) (roots : List Int) (cr : Nat) (w : World)
    (hI : I64 room) (hR : RdR w w.heap.size A raw) (hl : raw.length ≤ 9223372036854775807) (hF : ∀ j, j < raw.length → Fine5 (raw.getD j dead5)) (hRa : RdN w w.heap.size Aa la) (hla : la.length ≤ 9223372036854775807) (hca : la.length ≤ ca) (hFa : ∀ j, j < la.length → FineN (la.getD j deadN)) (hIa : I64 ra) (hkk : Fine4 kk) (hr : Fine5 r) (hIl : I64 level)
    (hRo : Now w Ar roots) (hlr : roots.length ≤ 9223372036854775807) (hcr : roots.length ≤ cr) (hFr : ∀ j, j < roots.length → I64 (roots.getD j 0)) :
    Calls Try.prog 3 #[.int .i64 room, .slice A raw.length c, storeV Aa la.length ca ra, kidsV kk, rawV r, .int .i64 level, .slice Ar roots.length cr] w fun e w' => e = .returned (.bool true) ∧ Below w.heap.size w w' := by
  obtain ⟨hS, hSl⟩ := store_right room raw
  have hpb := pick6_bd room 60 (by decide)
  have hst := fun W hR' => store6_any A raw c room W hR' hl hI hF
  obtain ⟨R, hRR⟩ : ∃ R, R = 2 + pick6 room 60 := ⟨_, rfl⟩
  rw [← hRR] at hS hst
  obtain ⟨l, hll⟩ : ∃ l, l = store6 room raw := ⟨_, rfl⟩
  rw [← hll] at hS hst hSl
  have hRb : R ≤ 1000 ∧ 0 ≤ R := by omega
  have hlev : ∀ i, i < l.length → -9223372036854775808 ≤ (l.getD i deadN).1 ∧ (l.getD i deadN).1 ≤ 9223372036854775807 := fun i hi => by
    have := right_bd hS i hi
    omega
  have HLV := Lib.hid hlev
  have HLA := Lib.hid (show ∀ i, i < la.length → -9223372036854775808 ≤ (la.getD i deadN).1 ∧ (la.getD i deadN).1 ≤ 9223372036854775807 from fun i hi => (hFa i hi).1)
  have HSl := Lib.hid hSl
  have HRR := Lib.hid hR
  have HFR := Lib.hid hFr
  have HFK := Lib.hid hr
  have HST := Lib.hid hst
  unfold storeV kidsV rawV
  clear hS hSl hR hpb hRR hll hI hF hFr hFa hkk hlev hst hr
  go_enter Try.func3, Try.ntmps3
  go_wp2_with fail
  have hal1 := (Below.refl w.heap.size w).alloc (Nat.le_refl _) (.cells #[.slice Aa la.length ca, .int .i64 ra] 25)
  have hN0 : Hid (NtAt w (((w.alloc (.cells #[.slice Aa la.length ca, .int .i64 ra] 25)).alloc (.cells #[.int .i64 kk.1, .int .i64 kk.2.1, .int .i64 kk.2.2.1, .int .i64 kk.2.2.2] 26)).alloc (.cells #[.int .i64 r.1, .int .i64 r.2.1, .int .i64 r.2.2.1, .int .i64 r.2.2.2.1, .int .i64 r.2.2.2.2] 27)) w.heap.size Aa la ca ra kk r Ar roots) := by
    have h1 : (w.alloc (.cells #[.slice Aa la.length ca, .int .i64 ra] 25)).heap.size = w.heap.size + 1 := by simp
    have h2 : ((w.alloc (.cells #[.slice Aa la.length ca, .int .i64 ra] 25)).alloc (.cells #[.int .i64 kk.1, .int .i64 kk.2.1, .int .i64 kk.2.2.1, .int .i64 kk.2.2.2] 26)).heap.size = w.heap.size + 1 + 1 := by simp
    have b2 := (Below.refl _ (w.alloc (.cells #[.slice Aa la.length ca, .int .i64 ra] 25))).alloc (Nat.le_refl _) (.cells #[.int .i64 kk.1, .int .i64 kk.2.1, .int .i64 kk.2.2.1, .int .i64 kk.2.2.2] 26)
    have b3 := (Below.refl _ ((w.alloc (.cells #[.slice Aa la.length ca, .int .i64 ra] 25)).alloc (.cells #[.int .i64 kk.1, .int .i64 kk.2.1, .int .i64 kk.2.2.1, .int .i64 kk.2.2.2] 26))).alloc (Nat.le_refl _) (.cells #[.int .i64 r.1, .int .i64 r.2.1, .int .i64 r.2.2.1, .int .i64 r.2.2.2.1, .int .i64 r.2.2.2.2] 27)
    refine ⟨((stB_new hRa hca ra).below b2).below b3, ?_, ?_, ((hRo.below hal1).below b2).below b3, (hal1.alloc hal1.size _).alloc (by rw [h2]; omega) _⟩
    · have := (kdB_new (w := w.alloc (.cells #[.slice Aa la.length ca, .int .i64 ra] 25)) kk).below b3
      rwa [h1] at this
    · have := rawB_new (w := (w.alloc (.cells #[.slice Aa la.length ca, .int .i64 ra] 25)).alloc (.cells #[.int .i64 kk.1, .int .i64 kk.2.1, .int .i64 kk.2.2.1, .int .i64 kk.2.2.2] 26)) r
      rwa [h2] at this
  have HRD := Lib.hid ((HRR.out.below hN0.out.bel (Nat.le_refl _)).more hN0.out.bel.size)
  clear hal1 hRa hRo hca HRR
  generalize (((w.alloc (.cells #[.slice Aa la.length ca, .int .i64 ra] 25)).alloc (.cells #[.int .i64 kk.1, .int .i64 kk.2.1, .int .i64 kk.2.2.1, .int .i64 kk.2.2.2] 26)).alloc (.cells #[.int .i64 r.1, .int .i64 r.2.1, .int .i64 r.2.2.1, .int .i64 r.2.2.2.1, .int .i64 r.2.2.2.2] 27)) = v0 at *
  generalize hb0 : w.heap.size = b0 at *
  refine (awake6_any v0).mono ?_
  rintro e w1 ⟨rfl, hb1⟩
  have HN1 := Lib.hid (hN0.out.below hb1)
  have HRD1 := Lib.hid ((HRD.out.below hb1 (Nat.le_refl _)).more hb1.size)
  clear hN0 HRD hb1
  go_wp2_with fail
  refine (nodeNew_any room w1).mono ?_
  intro e w2 h
  obtain ⟨A2, c2, rfl, hc2, N2, hb2⟩ := storeR_box h
  clear h
  go_wp2_with fail
  refine (refNew6_any room w2).mono ?_
  intro e w3 h
  obtain ⟨A3, c3, rfl, hc3, N3, hb3⟩ := storeR_box h
  have hsm := refSame6_any A2 (newL room) c2 (newRoom room) A3 (newL room) c3 (newRoom room) w3 (N2.below hb3) N3 (by unfold newL; split <;> decide) (by unfold newL; split <;> decide)
  rw [decide_eq_true (⟨rfl, rfl⟩ : newRoom room = newRoom room ∧ newL room = newL room)] at hsm
  unfold storeV at hsm
  have HN3 := Lib.hid ((HN1.out.below hb2).below hb3)
  have HRD2 := ((HRD1.out.below hb2 (Nat.le_refl _)).more hb2.size)
  have HRD3 := Lib.hid ((HRD2.below hb3 (Nat.le_refl _)).more hb3.size)
  clear h hb2 hb3 HN1 HRD1 HRD2
  go_wp2_with fail
  refine hsm.mono ?_
  rintro e w4 ⟨rfl, hb4⟩
  have HN4 := Lib.hid (HN3.out.below hb4)
  have HRD4 := Lib.hid ((HRD3.out.below hb4 (Nat.le_refl _)).more hb4.size)
  clear hsm hb4 N2 N3 hc2 hc3 HN3 HRD3
  go_wp2_with fail
  refine region_calm_to (fun W => Below w4.heap.size w4 W) (fun (a0 a9 : Act) (w9 : World) => ∃ (A9 : Option Addr) (c9 b9 : Nat), a9 = (((((((a0.put (some 51) (.int .i64 room)).put (some 52) (.slice A raw.length c)).put (some 53) (.agg #[.slice A9 l.length c9, .int .i64 R])).put (some 54) (.agg #[.slice Aa la.length ca, .int .i64 ra])).put (some 55) (.slice (some ⟨b9, 0, none⟩) 2 2)).put (some 56) (.int .i64 2)).put (some 57) (.int .i64 0)) ∧ TwoB w9 b9 A9 l c9 R Aa la ca ra ∧ l.length ≤ c9 ∧ Below w4.heap.size w4 w9) (.calm 0 (.calm 1 (.calm 3 (.calm 6 (.only 2 (.only 4 (.calm 5 .done))))))) (by kernel_rfl) (by kernel_rfl) (by kernel_rfl) (by rfl) (below_drew _) ?_ ?_
  · skip
    refine ⟨_, _, (.int .i64 room), rfl, rfl, ⟨rfl, fun W hW => by exact ⟨rfl, rfl⟩⟩, ?_⟩
    simp only [Act.put, List.setIfInBounds_toArray, List.set_cons_succ, List.set_cons_zero]
    refine ⟨_, _, (.slice A raw.length c), rfl, rfl, ⟨rfl, fun W hW => by exact ⟨rfl, rfl⟩⟩, ?_⟩
    simp only [Act.put, List.setIfInBounds_toArray, List.set_cons_succ, List.set_cons_zero]
    refine ⟨_, _, (.agg #[.slice Aa la.length ca, .int .i64 ra]), rfl, rfl, ⟨rfl, fun W hW => by have s0 := (HN4.out.below hW).any.s0; have s1 := (HN4.out.below hW).any.s1; simp only [execOp]; go_simp; done⟩, ?_⟩
    simp only [Act.put, List.setIfInBounds_toArray, List.set_cons_succ, List.set_cons_zero]
    refine ⟨_, _, (.int .i64 0), rfl, rfl, ⟨rfl, fun W hW => by exact ⟨rfl, rfl⟩⟩, ?_⟩
    simp only [Act.put, List.setIfInBounds_toArray, List.set_cons_succ, List.set_cons_zero]
    refine ⟨_, rfl, ?_⟩
    go_wp2_with fail
    refine (HST.out _ ((HRD4.out.below (below_drew w4) (Nat.le_refl _)).more (below_drew w4).size)).mono ?_
    intro e w5 h
    obtain ⟨A9, c9, rfl, hcap9, N9, hb⟩ := storeR_box h
    have hBc := Qt.more (below_drew w4) (Nat.le_refl _) hb
    have hB9 := hBc.alloc hBc.size (.cells #[.slice A9 l.length c9, .int .i64 R, .slice Aa la.length ca, .int .i64 ra] 25)
    have hal := (Below.refl w5.heap.size w5).alloc (Nat.le_refl _) (.cells #[.slice A9 l.length c9, .int .i64 R, .slice Aa la.length ca, .int .i64 ra] 25)
    have hT : TwoB (w5.alloc (.cells #[.slice A9 l.length c9, .int .i64 R, .slice Aa la.length ca, .int .i64 ra] 25)) w5.heap.size A9 l c9 R Aa la ca ra := ⟨heap_alloc_new w5 _, N9.below hal, ((HN4.out.below hBc).below hal).any.rd⟩
    clear h hb
    go_wp2_with fail
    refine ⟨rfl, hBc, ?_⟩
    refine ⟨_, rfl, ?_⟩
    go_wp2_with fail
    refine ⟨rfl, hB9, ?_⟩
    refine ⟨_, _, (.int .i64 2), rfl, rfl, ⟨rfl, fun W hW => by simp only [execOp]; go_simp; done⟩, ?_⟩
    simp only [Act.put, List.setIfInBounds_toArray, List.set_cons_succ, List.set_cons_zero]
    show ∃ (A9 : Option Addr) (c9 b9 : Nat), _
    refine ⟨A9, c9, w5.heap.size, ?_, hT, hcap9, hB9⟩
    first | rfl | simp only [Act.put, List.setIfInBounds_toArray, List.set_cons_succ, List.set_cons_zero]
  rintro a9 w5 ⟨A2, c2, bs, rfl, hT, hcap2, hb5⟩
  simp only [Act.put, List.setIfInBounds_toArray, List.set_cons_succ, List.set_cons_zero]
  have HN5 := Lib.hid (HN4.out.below hb5)
  have HT5 := Lib.hid hT
  have HCAP := Lib.hid hcap2
  clear hb5 hT HN4 HRD4 HST hcap2
  go_wp2_with fail
  go_loopw [57] (fun i wr => ∃ j : Nat, j ≤ 2 ∧ i = .int .i64 j ∧ Hid (NtAt w wr b0 Aa la ca ra kk r Ar roots) ∧ Hid (TwoB wr bs A2 l c2 R Aa la ca ra)) (fun i _ => 2 - (intOf i).toNat)
  case atStart => exact ⟨0, by omega, rfl, HN5.out, HT5.out⟩
  case round =>
    obtain ⟨j, hj, rfl, HN, HT⟩ := hrel
    by_cases hj2 : j < 2
    · have hj2z : (j : Int) < 2 := by omega
      obtain ⟨As, ls, cs, rs, c0, c1, N, hcs, hP⟩ := HT.out.one HCAP.out HN.out.any.cap (fun ls => ls.length ≤ 9223372036854775807 ∧ ∀ i, i < ls.length → -9223372036854775808 ≤ (ls.getD i deadN).1 ∧ (ls.getD i deadN).1 ≤ 9223372036854775807) ⟨by have := HSl.out; omega, HLV.out⟩ ⟨hla, HLA.out⟩ hj2
      have hlsb := hP.1
      have HLS := Lib.hid hP.2
      have hal := (Below.refl wr.heap.size wr).alloc (Nat.le_refl _) (.cells #[.slice As ls.length cs, .int .i64 rs] 25)
      have HSx := Lib.hid (stB_new N hcs rs)
      have HNx := Lib.hid (HN.out.below hal)
      have HTx := Lib.hid (HT.out.below hal)
      have s0 := HSx.out.s0
      have s1 := HSx.out.s1
      obtain ⟨wo, rfl⟩ : ∃ wo : World, wo = wr := ⟨_, rfl⟩
      clear hP hal N HN HT
      by_cases hbig : 100 < ls.length
      · have hbz : (100 : Int) < (ls.length : Int) := by omega
        go_wp2_with fail
        go_roundw
        case measure => simp [intOf]; omega
        case rel => exact ⟨j + 1, by omega, by go_num, HNx.out, HTx.out⟩
      · have hbz : ¬ (100 : Int) < (ls.length : Int) := by omega
        go_wp2_with fail
        have HE1 := Lib.hid (show EnvB w (wo.alloc (.cells #[.slice As ls.length cs, .int .i64 rs] 25)) b0 Aa la ca ra kk r Ar roots bs A2 l c2 R wo.heap.size As ls cs rs from ⟨HNx.out, HTx.out, HSx.out⟩)
        have HWO := Lib.hid hj2
        clear c0 c1 HNx HTx HSx
        generalize (wo.alloc (.cells #[.slice As ls.length cs, .int .i64 rs] 25)) = v1 at *
        generalize wo.heap.size = bx at *
        have hn := fun W (hW : Below v1.heap.size v1 W) => nodeRight_any As ls cs rs W ((HE1.out.below hW).st.rd) (by omega) hcs
        have hf := fun W (hW : Below v1.heap.size v1 W) => refRight6_any As ls cs rs W ((HE1.out.below hW).st.rd) (by omega) HLS.out
        generalize right6 ls rs = br at *
        unfold storeV at hn hf
        have k0 := Qt.cell_in s0
        have k1 := Qt.cell_in s1
        clear s0 s1
        refine Qt.below_all (by kernel_rfl) (by kernel_rfl) ?_
        iterate 5 (go_big_quiet_step (first | (go_at_call 16; exact Qt.at_call' hn) | (go_at_call 17; exact Qt.at_call' hf)))
        refine wpQuiet_nil ?_
        intro w6 hb6
        have HE6 := Lib.hid (HE1.out.below hb6)
        clear hn hf k0 k1 hb6 HE1
        go_wp2_with fail
        have hkd := fun W hW => kids6_any As ls cs rs r W hW (by omega) HFK.out
        obtain ⟨K, hK⟩ : ∃ K, K = kids6 ls r := ⟨_, rfl⟩
        rw [← hK] at hkd
        unfold storeV kidsV rawV at hkd
        have HKD := Lib.hid hkd
        clear hkd hK
        refine region_calm_to (fun W => Below w6.heap.size w6 W) (fun (a0 a9 : Act) (w9 : World) => ∃ (b9 : Nat), a9 = (((((((a0.put (some 70) (.agg #[.int .i64 kk.1, .int .i64 kk.2.1, .int .i64 kk.2.2.1, .int .i64 kk.2.2.2])).put (some 71) (.agg #[.slice As ls.length cs, .int .i64 rs])).put (some 72) (.agg #[.int .i64 r.1, .int .i64 r.2.1, .int .i64 r.2.2.1, .int .i64 r.2.2.2.1, .int .i64 r.2.2.2.2])).put (some 73) (.agg #[.int .i64 K.1, .int .i64 K.2.1, .int .i64 K.2.2.1, .int .i64 K.2.2.2])).put (some 74) (.slice (some ⟨b9, 0, none⟩) 2 2)).put (some 75) (.int .i64 2)).put (some 76) (.int .i64 0)) ∧ KdsB w9 b9 kk K ∧ Below w6.heap.size w6 w9) (.calm 0 (.calm 1 (.calm 2 (.calm 6 (.only 3 (.only 4 (.calm 5 .done))))))) (by kernel_rfl) (by kernel_rfl) (by kernel_rfl) (by rfl) (below_drew _) ?_ ?_
        · skip
          refine ⟨_, _, (.agg #[.int .i64 kk.1, .int .i64 kk.2.1, .int .i64 kk.2.2.1, .int .i64 kk.2.2.2]), rfl, rfl, ⟨rfl, fun W hW => by have q := (HE6.out.below hW).nt.kd; have c0 := q.c0; have c1 := q.c1; have c2 := q.c2; have c3 := q.c3; simp only [execOp]; go_simp; done⟩, ?_⟩
          simp only [Act.put, List.setIfInBounds_toArray, List.set_cons_succ, List.set_cons_zero]
          refine ⟨_, _, (.agg #[.slice As ls.length cs, .int .i64 rs]), rfl, rfl, ⟨rfl, fun W hW => by have s0 := (HE6.out.below hW).st.s0; have s1 := (HE6.out.below hW).st.s1; simp only [execOp]; go_simp; done⟩, ?_⟩
          simp only [Act.put, List.setIfInBounds_toArray, List.set_cons_succ, List.set_cons_zero]
          refine ⟨_, _, (.agg #[.int .i64 r.1, .int .i64 r.2.1, .int .i64 r.2.2.1, .int .i64 r.2.2.2.1, .int .i64 r.2.2.2.2]), rfl, rfl, ⟨rfl, fun W hW => by have q := (HE6.out.below hW).nt.raw; have c0 := q.c0; have c1 := q.c1; have c2 := q.c2; have c3 := q.c3; have c4 := q.c4; simp only [execOp]; go_simp; done⟩, ?_⟩
          simp only [Act.put, List.setIfInBounds_toArray, List.set_cons_succ, List.set_cons_zero]
          refine ⟨_, _, (.int .i64 0), rfl, rfl, ⟨rfl, fun W hW => by exact ⟨rfl, rfl⟩⟩, ?_⟩
          simp only [Act.put, List.setIfInBounds_toArray, List.set_cons_succ, List.set_cons_zero]
          refine ⟨_, rfl, ?_⟩
          go_wp2_with fail
          refine (HKD.out _ ((HE6.out.below (below_drew w6)).st.rd)).mono ?_
          rintro e w7 ⟨rfl, hb⟩
          have hBc := Qt.more (below_drew w6) (Nat.le_refl _) hb
          have hB9 := hBc.alloc hBc.size (.cells #[.int .i64 kk.1, .int .i64 kk.2.1, .int .i64 kk.2.2.1, .int .i64 kk.2.2.2, .int .i64 K.1, .int .i64 K.2.1, .int .i64 K.2.2.1, .int .i64 K.2.2.2] 26)
          have hT : KdsB (w7.alloc (.cells #[.int .i64 kk.1, .int .i64 kk.2.1, .int .i64 kk.2.2.1, .int .i64 kk.2.2.2, .int .i64 K.1, .int .i64 K.2.1, .int .i64 K.2.2.1, .int .i64 K.2.2.2] 26)) w7.heap.size kk K := ⟨heap_alloc_new w7 _⟩
          clear hb
          go_wp2_with fail
          refine ⟨rfl, hBc, ?_⟩
          refine ⟨_, rfl, ?_⟩
          go_wp2_with fail
          refine ⟨rfl, hB9, ?_⟩
          refine ⟨_, _, (.int .i64 2), rfl, rfl, ⟨rfl, fun W hW => by simp only [execOp]; go_simp; done⟩, ?_⟩
          simp only [Act.put, List.setIfInBounds_toArray, List.set_cons_succ, List.set_cons_zero]
          show ∃ (b9 : Nat), _
          refine ⟨w7.heap.size, ?_, hT, hB9⟩
          first | rfl | simp only [Act.put, List.setIfInBounds_toArray, List.set_cons_succ, List.set_cons_zero]
        rintro a9 w7 ⟨bk, rfl, hT, hb7⟩
        simp only [Act.put, List.setIfInBounds_toArray, List.set_cons_succ, List.set_cons_zero]
        have HE7 := Lib.hid (HE6.out.below hb7)
        have HK7 := Lib.hid hT
        clear hb7 hT HE6 HKD
        go_wp2_with fail
        go_loopw [76] (fun i wr => ∃ m : Nat, m ≤ 2 ∧ i = .int .i64 m ∧ Hid (EnvB w wr b0 Aa la ca ra kk r Ar roots bs A2 l c2 R bx As ls cs rs) ∧ Hid (KdsB wr bk kk K)) (fun i _ => 2 - (intOf i).toNat)
        case atStart => exact ⟨0, by omega, rfl, HE7.out, HK7.out⟩
        case round =>
          obtain ⟨m, hm, rfl, HE, HK⟩ := hrel
          by_cases hm2 : m < 2
          · have hm2z : (m : Int) < 2 := by omega
            obtain ⟨x, c0, c1, c2', c3⟩ := HK.out.one hm2
            obtain ⟨wi, rfl⟩ : ∃ wi : World, wi = wr := ⟨_, rfl⟩
            have hal := (Below.refl wi.heap.size wi).alloc (Nat.le_refl _) (.cells #[.int .i64 x.1, .int .i64 x.2.1, .int .i64 x.2.2.1, .int .i64 x.2.2.2] 26)
            have HEx := Lib.hid (HE.out.below hal)
            have HKx := Lib.hid (HK.out.below hal)
            have HX := Lib.hid (kdB_new (w := wi) x)
            have s0 := HEx.out.st.s0
            have s1 := HEx.out.st.s1
            have x0 := HX.out.c0
            have x1 := HX.out.c1
            have x2 := HX.out.c2
            have x3 := HX.out.c3
            clear hal HE HK
            go_wp2_with fail
            clear s0 s1 x0 x1 x2 x3 c0 c1 c2' c3
            generalize (wi.alloc (.cells #[.int .i64 x.1, .int .i64 x.2.1, .int .i64 x.2.2.1, .int .i64 x.2.2.2] 26)) = v2 at *
            generalize wi.heap.size = b2 at *
            have hin := nodeIntern_any As ls cs rs x v2 HEx.out.st.rd (by omega) hcs
            have hrf := fun W hW => refIntern6_any As ls cs rs x W hW (by omega) hcs HLS.out
            have hpl := intern6_len ls rs x
            obtain ⟨⟨L, nb, eb⟩, hp⟩ : ∃ p, p = intern6 ls rs x := ⟨_, rfl⟩
            rw [← hp] at hin hrf hpl
            dsimp only at hpl
            unfold storeV kidsV at hin hrf
            have HRF := Lib.hid hrf
            clear hp hrf
            refine hin.mono ?_
            intro e w8 h
            obtain ⟨A8, c8, rfl, hcap8, N8, hb8⟩ := putR_box h
            dsimp only at hcap8 N8
            have hal := (Below.refl w8.heap.size w8).alloc (Nat.le_refl _) (.cells #[.slice A8 L.length c8, .int .i64 rs] 25)
            have HA8 := Lib.hid (stB_new N8 hcap8 rs)
            have HE8 := Lib.hid ((HEx.out.below hb8).below hal)
            have HK8 := Lib.hid ((HKx.out.below hb8).below hal)
            have HX8 := Lib.hid ((HX.out.below hb8).below hal)
            have s0 := HE8.out.st.s0
            have s1 := HE8.out.st.s1
            have x0 := HX8.out.c0
            have x1 := HX8.out.c1
            have x2 := HX8.out.c2
            have x3 := HX8.out.c3
            clear h hin hb8 hal HEx HKx HX N8
            go_wp2_with fail
            clear s0 s1 x0 x1 x2 x3
            generalize (w8.alloc (.cells #[.slice A8 L.length c8, .int .i64 rs] 25)) = v8 at *
            generalize w8.heap.size = b8 at *
            refine (HRF.out v8 HE8.out.st.rd).mono ?_
            intro e w9 h
            obtain ⟨A9, c9, rfl, hcap9, N9, hb9⟩ := putR_box h
            dsimp only at hcap9 N9
            have hal := (Below.refl w9.heap.size w9).alloc (Nat.le_refl _) (.cells #[.slice A9 L.length c9, .int .i64 rs] 25)
            have HB9 := Lib.hid (stB_new N9 hcap9 rs)
            have HA9 := Lib.hid ((HA8.out.below hb9).below hal)
            have HE9 := Lib.hid ((HE8.out.below hb9).below hal)
            have HK9 := Lib.hid ((HK8.out.below hb9).below hal)
            have s0 := HA9.out.s0
            have s1 := HA9.out.s1
            have x0 := HB9.out.s0
            have x1 := HB9.out.s1
            clear h hb9 hal HE8 HK8 HX8 N9 HA8 HRF
            go_wp2_with fail
            clear s0 s1 x0 x1
            generalize (w9.alloc (.cells #[.slice A9 L.length c9, .int .i64 rs] 25)) = v9 at *
            generalize w9.heap.size = b9 at *
            have hsm := refSame6_any A8 L c8 rs A9 L c9 rs v9 HA9.out.rd HB9.out.rd (by omega) (by omega)
            rw [decide_eq_true (⟨rfl, rfl⟩ : rs = rs ∧ L = L)] at hsm
            unfold storeV at hsm
            refine hsm.mono ?_
            rintro e w10 ⟨rfl, hb10⟩
            have HE10 := Lib.hid (HE9.out.below hb10)
            have HK10 := Lib.hid (HK9.out.below hb10)
            clear hsm hb10 HE9 HK9 HA9 HB9
            go_wp2_with fail
            go_roundw
            case measure => simp [intOf]; omega
            case rel => exact ⟨m + 1, by omega, by go_num, HE10.out, HK10.out⟩
          · obtain rfl : m = 2 := by omega
            have hkz : ¬ ((2 : Nat) : Int) < 2 := by decide
            clear HE7 HK7 HK
            have hal := (Below.refl wr.heap.size wr).alloc (Nat.le_refl _) (.cells #[.int .i64 level, .int .i64 (pickI level 43)] 3)
            have HE2 := Lib.hid (HE.out.below hal)
            have HI2 : Hid (IntsB (wr.alloc (.cells #[.int .i64 level, .int .i64 (pickI level 43)] 3)) wr.heap.size level (pickI level 43)) := ⟨heap_alloc_new wr _⟩
            clear hal HE hm2 hm
            go_wp2_with (go_at_call 21; refine (pick_any level 43 _ hIl.1 hIl.2 (by decide) (by decide)).mono ?_; rintro e w8 ⟨rfl, rfl⟩)
            generalize (wr.alloc (.cells #[.int .i64 level, .int .i64 (pickI level 43)] 3)) = v3 at *
            generalize wr.heap.size = bi at *
            generalize pickI level 43 = pl at *
            go_loopw [114] (fun i wr => ∃ m : Nat, m ≤ 2 ∧ i = .int .i64 m ∧ Hid (EnvB w wr b0 Aa la ca ra kk r Ar roots bs A2 l c2 R bx As ls cs rs) ∧ Hid (IntsB wr bi level pl)) (fun i _ => 2 - (intOf i).toNat)
            case atStart => exact ⟨0, by omega, rfl, HE2.out, HI2.out⟩
            case round =>
              obtain ⟨m, hm, rfl, HE, HK⟩ := hrel
              by_cases hm2 : m < 2
              · have hm2z : (m : Int) < 2 := by omega
                obtain ⟨x, c0⟩ := HK.out.one hm2
                obtain ⟨wi, rfl⟩ : ∃ wi : World, wi = wr := ⟨_, rfl⟩
                have hin := nodeEmpty_any As ls cs rs x wi HE.out.st.rd (by omega) hcs
                have hrf := fun W hW => refEmpty6_any As ls cs rs x W hW (by omega) hcs HLS.out
                have hpl := empty6_len ls rs x
                obtain ⟨⟨L, nb, eb⟩, hp⟩ : ∃ p, p = empty6 ls rs x := ⟨_, rfl⟩
                rw [← hp] at hin hrf hpl
                dsimp only at hpl
                unfold storeV at hin hrf
                have HRF := Lib.hid hrf
                have s0 := HE.out.st.s0
                have s1 := HE.out.st.s1
                clear hp hrf
                go_wp2_with fail
                clear s0 s1 c0
                refine hin.mono ?_
                intro e w8 h
                obtain ⟨A8, c8, rfl, hcap8, N8, hb8⟩ := putR_box h
                dsimp only at hcap8 N8
                have hal := (Below.refl w8.heap.size w8).alloc (Nat.le_refl _) (.cells #[.slice A8 L.length c8, .int .i64 rs] 25)
                have HA8 := Lib.hid (stB_new N8 hcap8 rs)
                have HE8 := Lib.hid ((HE.out.below hb8).below hal)
                have HK8 := Lib.hid ((HK.out.below hb8).below hal)
                have s0 := HE8.out.st.s0
                have s1 := HE8.out.st.s1
                clear h hin hb8 hal HE HK N8
                go_wp2_with fail
                clear s0 s1
                generalize (w8.alloc (.cells #[.slice A8 L.length c8, .int .i64 rs] 25)) = v8 at *
                generalize w8.heap.size = b8 at *
                refine (HRF.out v8 HE8.out.st.rd).mono ?_
                intro e w9 h
                obtain ⟨A9, c9, rfl, hcap9, N9, hb9⟩ := putR_box h
                dsimp only at hcap9 N9
                have hal := (Below.refl w9.heap.size w9).alloc (Nat.le_refl _) (.cells #[.slice A9 L.length c9, .int .i64 rs] 25)
                have HB9 := Lib.hid (stB_new N9 hcap9 rs)
                have HA9 := Lib.hid ((HA8.out.below hb9).below hal)
                have HE9 := Lib.hid ((HE8.out.below hb9).below hal)
                have HK9 := Lib.hid ((HK8.out.below hb9).below hal)
                have s0 := HA9.out.s0
                have s1 := HA9.out.s1
                have x0 := HB9.out.s0
                have x1 := HB9.out.s1
                clear h hb9 hal HE8 HK8 N9 HA8 HRF
                go_wp2_with fail
                clear s0 s1 x0 x1
                generalize (w9.alloc (.cells #[.slice A9 L.length c9, .int .i64 rs] 25)) = v9 at *
                generalize w9.heap.size = b9 at *
                have hsm := refSame6_any A8 L c8 rs A9 L c9 rs v9 HA9.out.rd HB9.out.rd (by omega) (by omega)
                rw [decide_eq_true (⟨rfl, rfl⟩ : rs = rs ∧ L = L)] at hsm
                unfold storeV at hsm
                refine hsm.mono ?_
                rintro e w10 ⟨rfl, hb10⟩
                have HE10 := Lib.hid (HE9.out.below hb10)
                have HK10 := Lib.hid (HK9.out.below hb10)
                clear hsm hb10 HE9 HK9 HA9 HB9
                go_wp2_with fail
                go_roundw
                case measure => simp [intOf]; omega
                case rel => exact ⟨m + 1, by omega, by go_num, HE10.out, HK10.out⟩
              · obtain rfl : m = 2 := by omega
                have hkz : ¬ ((2 : Nat) : Int) < 2 := by decide
                obtain ⟨v4, rfl⟩ : ∃ v4 : World, v4 = wr := ⟨_, rfl⟩
                obtain ⟨mx, hmx⟩ : ∃ mx : Nat, mx = max ls.length 1 := ⟨_, rfl⟩
                have hmx1 : 1 ≤ mx := by omega
                have hmx2 : mx ≤ 100 := by omega
                clear HE2 HI2 HK hm2 hm
                go_wp2_with fail
                go_loopw [34, 35] (fun v i wr => ∃ k : Nat, k ≤ roots.length ∧ k ≤ 5 ∧ i = .int .i64 k ∧ Hid (Own wr v4.heap.size v (liveIn roots mx k)) ∧ Hid (Below v4.heap.size v4 wr)) (fun _ i _ => 5 - (intOf i).toNat)
                case atStart => exact ⟨0, Nat.zero_le _, Nat.zero_le _, rfl, World.ownsRow_nil _ _ _ _, Below.refl _ _⟩
                case round =>
                  obtain ⟨k, hk, hk5, rfl, HO, HB⟩ := hrel
                  by_cases hlt : k < roots.length ∧ k < 5
                  · obtain ⟨hlt1, hlt2⟩ := hlt
                    have hltz : (k : Int) < (roots.length : Int) := by omega
                    have hltz2 : (k : Int) < 5 := by omega
                    obtain ⟨b, off, rfl, _, hcell⟩ := (HE.out.nt.rt).at_ (by omega)
                    have hx64 := HFR.out k hlt1
                    have hup : liveIn roots mx (k + 1) = liveIn roots mx k ++ [pickI (roots.getD k 0) mx] := rfl
                    obtain ⟨x, hx⟩ : ∃ x, x = roots.getD k 0 := ⟨_, rfl⟩
                    rw [← hx] at hx64 hup
                    have c0 := hcell k hlt1
                    rw [← hx] at c0
                    have hpk := fun W => pick_any x mx W hx64.1 hx64.2 (by omega) (by omega)
                    have hBd : Below v4.heap.size v4 wr.drew := Qt.more HB.out HB.out.size (below_drew wr)
                    have HPK := Lib.hid hpk
                    have HX9 := Lib.hid hx
                    have s0 := (HE.out.below HB.out).st.s0
                    clear hx hpk
                    go_wp2_with fail
                    have hOd : Own wr.drew v4.heap.size u34 (liveIn roots mx k) := HO.out
                    obtain ⟨v', w', hrun, hown, hb2⟩ := push_any (pickI x mx) hBd.size hOd (by rw [length_liveIn]; omega)
                    rw [← hup] at hown
                    have HO2 := Lib.hid hown
                    have hB9 := hBd.trans hb2
                    have hB8 := hBd.alloc hBd.size (.cells #[.int .i64 (pickI x mx)] 3)
                    have hmxz : max (ls.length : Int) 1 = (mx : Int) := by omega
                    clear hup hmx s0
                    refine region_calm_to (fun W => Below v4.heap.size v4 W) (fun (a0 a9 : Act) (w9 : World) => ∃ v9 : Value, a9 = (((((((((((((a0.put (some 157) u34).put (some 158) (.slice (some ⟨b, off, none⟩) roots.length cr)).put (some 159) (.int .i64 (k : Int))).put (some 160) (.pointer (some ⟨b, off + k, none⟩))).put (some 161) (.int .i64 x)).put (some 162) (.pointer (some ⟨bx, 0, none⟩))).put (some 163) (.slice As ls.length cs)).put (some 164) (.int .i64 (ls.length : Int))).put (some 165) (.int .i64 (mx : Int))).put (some 166) (.int .i64 (pickI x mx))).put (some 167) (.slice (some ⟨wr.heap.size, 0, none⟩) 1 1)).put (some 168) v9).put (some 34) v9) ∧ Own w9 v4.heap.size v9 (liveIn roots mx (k + 1)) ∧ Below v4.heap.size v4 w9) (.calm 0 (.calm 1 (.calm 2 (.calm 3 (.calm 4 (.calm 5 (.calm 6 (.calm 7 (.calm 8 (.calm 9 (.only 10 (.only 11 (.only 12 .done))))))))))))) (by kernel_rfl) (by kernel_rfl) (by kernel_rfl) (by rfl) hBd ?_ ?_
                    · skip
                      refine ⟨_, _, u34, rfl, rfl, ⟨rfl, fun W hW => by exact ⟨rfl, rfl⟩⟩, ?_⟩
                      simp only [Act.put, List.setIfInBounds_toArray, List.set_cons_succ, List.set_cons_zero]
                      refine ⟨_, _, (.slice (some ⟨b, off, none⟩) roots.length cr), rfl, rfl, ⟨rfl, fun W hW => by exact ⟨rfl, rfl⟩⟩, ?_⟩
                      simp only [Act.put, List.setIfInBounds_toArray, List.set_cons_succ, List.set_cons_zero]
                      refine ⟨_, _, (.int .i64 (k : Int)), rfl, rfl, ⟨rfl, fun W hW => by exact ⟨rfl, rfl⟩⟩, ?_⟩
                      simp only [Act.put, List.setIfInBounds_toArray, List.set_cons_succ, List.set_cons_zero]
                      refine ⟨_, _, (.pointer (some ⟨b, off + k, none⟩)), rfl, rfl, ⟨rfl, fun W hW => by simp only [execOp]; go_simp; try exact ⟨rfl, rfl⟩⟩, ?_⟩
                      simp only [Act.put, List.setIfInBounds_toArray, List.set_cons_succ, List.set_cons_zero]
                      refine ⟨_, _, (.int .i64 x), rfl, rfl, ⟨rfl, fun W hW => by have c1 := Qt.keep hW c0; simp only [execOp]; go_simp; done⟩, ?_⟩
                      simp only [Act.put, List.setIfInBounds_toArray, List.set_cons_succ, List.set_cons_zero]
                      refine ⟨_, _, (.pointer (some ⟨bx, 0, none⟩)), rfl, rfl, ⟨rfl, fun W hW => by simp only [execOp]; go_simp; try exact ⟨rfl, rfl⟩⟩, ?_⟩
                      simp only [Act.put, List.setIfInBounds_toArray, List.set_cons_succ, List.set_cons_zero]
                      refine ⟨_, _, (.slice As ls.length cs), rfl, rfl, ⟨rfl, fun W hW => by have s1 := (HE.out.below hW).st.s0; simp only [execOp]; go_simp; done⟩, ?_⟩
                      simp only [Act.put, List.setIfInBounds_toArray, List.set_cons_succ, List.set_cons_zero]
                      refine ⟨_, _, (.int .i64 (ls.length : Int)), rfl, rfl, ⟨rfl, fun W hW => by simp only [execOp]; go_simp; done⟩, ?_⟩
                      simp only [Act.put, List.setIfInBounds_toArray, List.set_cons_succ, List.set_cons_zero]
                      refine ⟨_, _, (.int .i64 (mx : Int)), rfl, rfl, ⟨rfl, fun W hW => by simp only [execOp]; go_simp; try exact ⟨hmxz, rfl⟩⟩, ?_⟩
                      simp only [Act.put, List.setIfInBounds_toArray, List.set_cons_succ, List.set_cons_zero]
                      refine ⟨_, _, (.int .i64 (pickI x mx)), rfl, rfl, ⟨rfl, fun W hW => by clear hrun hown hb2; simp only [execOp]; go_simp; exact (HPK.out W).mono fun e w1 h => ⟨h.1, h.2.symm⟩⟩, ?_⟩
                      simp only [Act.put, List.setIfInBounds_toArray, List.set_cons_succ, List.set_cons_zero]
                      refine ⟨_, rfl, ?_⟩
                      go_wp2_with fail
                      refine ⟨rfl, hB8, ?_⟩
                      refine ⟨_, rfl, ?_⟩
                      refine Lib.wpList_append_run _ rfl (.tmp 157) (.tmp 167) 28 28 rfl _ _ rfl rfl _ _ hrun ?_
                      refine ⟨rfl, hB9, ?_⟩
                      refine ⟨_, rfl, ?_⟩
                      go_wp2_with fail
                      refine ⟨rfl, hB9, ?_⟩
                      show ∃ v9 : Value, _
                      refine ⟨v', ?_, HO2.out, hB9⟩
                      first | rfl | simp only [Act.put, List.setIfInBounds_toArray, List.set_cons_succ, List.set_cons_zero]
                    rintro a9 w9 ⟨v9, rfl, hO9, hBw9⟩
                    simp only [Act.put, List.setIfInBounds_toArray, List.set_cons_succ, List.set_cons_zero]
                    have HO9 := Lib.hid hO9
                    have HB9 := Lib.hid hBw9
                    clear hB8 hB9 hrun hown hb2 hBd c0 HO hOd hO9 hBw9
                    go_wp2_with fail
                    go_roundw
                    case measure => simp [intOf]; omega
                    case rel => exact ⟨k + 1, by omega, by omega, by go_num, HO9.out, HB9.out⟩
                  · have hlen := length_liveIn roots mx k
                    have hbd := liveIn_bd roots hmx1 k
                    have hown := HO.out
                    obtain ⟨IN, hIN⟩ : ∃ IN, IN = liveIn roots mx k := ⟨_, rfl⟩
                    rw [← hIN] at hbd hlen hown
                    clear HO hIN
                    obtain ⟨A3, c3, rfl, hc3, hNi⟩ := Own.reads hown
                    have hmin : min (roots.length : Int) 5 = (k : Int) := by omega
                    have hto := slice_to6 (A := Ar) (n := roots.length) (c := cr) (t := k) (by omega)
                    have hal := (Below.refl wr.heap.size wr).alloc (Nat.le_refl _) (.cells #[.slice A3 IN.length c3, .slice Ar k cr, .slice none 0 0] 28)
                    have hRT := Now.take (HE.out.below HB.out).nt.rt k
                    have hkl : (roots.take k).length = k := by rw [List.length_take]; omega
                    have HE9 := Lib.hid ((HE.out.below HB.out).below hal)
                    have HSL : Hid (SlsB (wr.alloc (.cells #[.slice A3 IN.length c3, .slice Ar k cr, .slice none 0 0] 28)) wr.heap.size A3 IN c3 Ar (roots.take k) cr) := ⟨by rw [hkl]; exact heap_alloc_new wr _, hNi.below hal, hRT.below hal⟩
                    have HP1 := Lib.hid (show IN.length ≤ 5 ∧ ∀ j, j < IN.length → I64 (IN.getD j 0) from ⟨by omega, fun j hj => by
                      have := hbd (IN.getD j 0) (by rw [List.getD_eq_getElem?_getD, List.getElem?_eq_getElem hj]; exact List.getElem_mem _)
                      unfold I64
                      omega⟩)
                    have HP2 := Lib.hid (show (roots.take k).length ≤ 5 ∧ ∀ j, j < (roots.take k).length → I64 ((roots.take k).getD j 0) from ⟨by omega, fun j hj => by
                      have h1 := HFR.out j (by omega)
                      rw [List.getD_eq_getElem?_getD, List.getElem?_take, if_pos (by omega), ← List.getD_eq_getElem?_getD]
                      exact h1⟩)
                    have hdec : (¬ (k : Int) < (roots.length : Int)) ∨ ((k : Int) < (roots.length : Int) ∧ ¬ (k : Int) < 5) := by omega
                    clear hlen hbd hown hc3 hNi hal hRT hkl hlt HE HB hmx
                    rcases hdec with hd1 | ⟨hd1, hd2⟩
                    all_goals
                      go_wp2_with fail
                      clear hto hmin
                      generalize (wr.alloc (.cells #[.slice A3 IN.length c3, .slice Ar k cr, .slice none 0 0] 28)) = v5 at *
                      generalize wr.heap.size = bl at *
                      generalize roots.take k = RT at *
                      go_loopw [177] (fun i wr => ∃ m : Nat, m ≤ 3 ∧ i = .int .i64 m ∧ Hid (EnvB w wr b0 Aa la ca ra kk r Ar roots bs A2 l c2 R bx As ls cs rs) ∧ Hid (SlsB wr bl A3 IN c3 Ar RT cr)) (fun i _ => 3 - (intOf i).toNat)
                      case atStart => exact ⟨0, by omega, rfl, HE9.out, HSL.out⟩
                      case round =>
                        obtain ⟨m, hm, rfl, HE, HK⟩ := hrel
                        by_cases hm2 : m < 3
                        · have hm2z : (m : Int) < 3 := by omega
                          obtain ⟨B, Rl, d, c0, hNl, hRl, hR64⟩ := HK.out.one (fun Rl => Rl.length ≤ 5 ∧ ∀ j, j < Rl.length → I64 (Rl.getD j 0)) HP1.out HP2.out ⟨by decide, fun j hj => absurd hj (Nat.not_lt_zero j)⟩ hm2
                          obtain ⟨wi, rfl⟩ : ∃ wi : World, wi = wr := ⟨_, rfl⟩
                          have hin := nodeLive_any As ls cs rs B Rl d wi HE.out.st.rd (by omega) hcs hNl (by omega)
                          have hrf := fun W hW (hM : Now W B Rl) => refLive_any As ls cs rs B Rl d W hW (by omega) hcs hM (by omega) hR64 HLS.out
                          have hpl := live6_len ls rs Rl
                          obtain ⟨⟨L, T, eb⟩, hp⟩ : ∃ p, p = live6 ls rs Rl := ⟨_, rfl⟩
                          rw [← hp] at hin hrf hpl
                          dsimp only at hpl
                          unfold storeV at hin hrf
                          have HRF := Lib.hid hrf
                          have HNl := Lib.hid hNl
                          have s0 := HE.out.st.s0
                          have s1 := HE.out.st.s1
                          have hTl : T.length ≤ 5 := by omega
                          have hLl : L.length ≤ 100 := by omega
                          clear hp hrf hNl hR64 hpl hRl
                          go_wp2_with fail
                          clear s0 s1 c0
                          refine hin.mono ?_
                          intro e w8 h
                          obtain ⟨A8, c8, B8, d8, rfl, hcap8, hd8, N8, M8, hb8⟩ := liveR_box h
                          dsimp only at hcap8 hd8 N8 M8
                          have hal := (Below.refl w8.heap.size w8).alloc (Nat.le_refl _) (.cells #[.slice A8 L.length c8, .int .i64 rs] 25)
                          have HA8 := Lib.hid (stB_new N8 hcap8 rs)
                          have HM8 := Lib.hid ((show Now w8 B8 T from M8).below hal)
                          have HE8 := Lib.hid ((HE.out.below hb8).below hal)
                          have HK8 := Lib.hid ((HK.out.below hb8).below hal)
                          have HN8 := Lib.hid ((HNl.out.below hb8).below hal)
                          have s0 := HE8.out.st.s0
                          have s1 := HE8.out.st.s1
                          clear h hin hb8 hal HE HK HNl N8 M8
                          go_wp2_with fail
                          clear s0 s1
                          generalize (w8.alloc (.cells #[.slice A8 L.length c8, .int .i64 rs] 25)) = v8 at *
                          generalize w8.heap.size = b8 at *
                          refine (HRF.out v8 HE8.out.st.rd HN8.out).mono ?_
                          intro e w9 h
                          obtain ⟨A9, c9, B9, d9, rfl, hcap9, hd9, N9, M9, hb9⟩ := liveR_box h
                          dsimp only at hcap9 hd9 N9 M9
                          have hal := (Below.refl w9.heap.size w9).alloc (Nat.le_refl _) (.cells #[.slice A9 L.length c9, .int .i64 rs] 25)
                          have HB9 := Lib.hid (stB_new N9 hcap9 rs)
                          have HM9 := Lib.hid ((show Now w9 B9 T from M9).below hal)
                          have HA9 := Lib.hid ((HA8.out.below hb9).below hal)
                          have HE9 := Lib.hid ((HE8.out.below hb9).below hal)
                          have HK9 := Lib.hid ((HK8.out.below hb9).below hal)
                          have HL9 := Lib.hid ((HM8.out.below hb9).below hal)
                          have s0 := HA9.out.s0
                          have s1 := HA9.out.s1
                          have x0 := HB9.out.s0
                          have x1 := HB9.out.s1
                          clear h hb9 hal HE8 HK8 HN8 N9 M9 HA8 HM8 HRF
                          go_wp2_with fail
                          clear s0 s1 x0 x1
                          generalize (w9.alloc (.cells #[.slice A9 L.length c9, .int .i64 rs] 25)) = v9 at *
                          generalize w9.heap.size = b9 at *
                          have hsm := refSame6_any A8 L c8 rs A9 L c9 rs v9 HA9.out.rd HB9.out.rd (by omega) (by omega)
                          rw [decide_eq_true (⟨rfl, rfl⟩ : rs = rs ∧ L = L)] at hsm
                          unfold storeV at hsm
                          refine hsm.mono ?_
                          rintro e w10 ⟨rfl, hb10⟩
                          have hii := ints_any (n := T.length) (n' := T.length) (c := d8) (c' := d9) (HL9.out.below hb10) (HM9.out.below hb10) rfl rfl (by omega)
                          rw [decide_eq_true (rfl : T = T)] at hii
                          have HE10 := Lib.hid (HE9.out.below hb10)
                          have HK10 := Lib.hid (HK9.out.below hb10)
                          clear hsm hb10 HE9 HK9 HA9 HB9 HM9 HL9
                          go_wp2_with fail
                          refine hii.mono ?_
                          rintro e w11 ⟨rfl, hb11⟩
                          have HE11 := Lib.hid (HE10.out.below hb11)
                          have HK11 := Lib.hid (HK10.out.below hb11)
                          clear hii hb11 HE10 HK10
                          go_wp2_with fail
                          go_roundw
                          case measure => simp [intOf]; omega
                          case rel => exact ⟨m + 1, by omega, by go_num, HE11.out, HK11.out⟩
                        · obtain rfl : m = 3 := by omega
                          have hkz : ¬ ((3 : Nat) : Int) < 3 := by decide
                          have HT := Lib.hid HE.out.two
                          have HN := Lib.hid HE.out.nt
                          have hj2 := HWO.out
                          clear HE9 HSL HE HK hm2 hm
                          go_wp2_with fail
                          go_roundw
                          case measure => simp [intOf]; omega
                          case rel => exact ⟨j + 1, by omega, by go_num, HN.out, HT.out⟩
    · obtain rfl : j = 2 := by omega
      have hkz : ¬ ((2 : Nat) : Int) < 2 := by decide
      have HB := Lib.hid HN.out.bel
      clear HN HT hj2
      go_wp2_with fail
      go_ret
      exact ⟨rfl, HB.out⟩
end Go.Proofs.Ytcmdhochofoohaa
