/-
  ProbeAlone, its walk: one worker alone.
-/
import Derived.Test.YtocepdhjkhhpfaaB17
import Derived.Test.YtocepdhjkhhpfaaB19
import Derived.Test.YtocepdhjkhhpfaaPe0
import Derived.Test.YtocepdhjkhhpfaaPe1
import Derived.Test.YtocepdhjkhhpfaaPe4
namespace Go.Proofs.Ytocepdhjkhhpfaa
set_option maxRecDepth 100000
set_option linter.unusedVariables false
set_option linter.unusedSimpArgs false
open Go.RowKit Go.Sort

/-- one alone at a table: it ends; what it ends with; what is then -/
theorem ProbeJ.next {S N c : Nat} {m : List Int} {L : List (Kd × Nat)} {F : List Nat} (h : ProbeJ S N c m L F) (hc : c ≤ 900000) {k : Kd} (hk : ∀ i, i < 4 → WdI (kdH k i)) :
    ∃ (m2 : List Int) (q : Nat) (v : W8) (L2 : List (Kd × Nat)) (F2 : List Nat) (c2 : Nat), AloneM S N m (internW k) q m2 v ∧ (∀ B s, bas B q s = s) ∧ q ≤ 5 * S + 9 ∧ v.done = true ∧ ProbeJ S N c2 m2 L2 F2 ∧ c2 ≤ c + 1 ∧
      ((∃ x ∈ L, x.1 = k ∧ (∀ y ∈ L, y.1 = k → y.2 = x.2) ∧ v.out = (x.2 : Int) ∧ L2 = L) ∨ ((∀ x ∈ L, x.1 ≠ k) ∧ (L.length = S ∨ L.length = N) ∧ v.out = -1 ∧ L2 = L) ∨ ((∀ x ∈ L, x.1 ≠ k) ∧ L.length < S ∧ L.length < N ∧ ∃ n : Nat, n < N ∧ v.out = (n : Int) ∧ kdAt S m2 n = k ∧ L2 = L ++ [(k, n)])) := by
  have hbas : ∀ {m2 : List Int} {q : Nat} {v : W8}, AloneM S N m (internW k) q m2 v → v.done = true → ∀ B s, bas B q s = s := fun ha hd B s => by
    obtain ⟨p, _, _, rfl, _⟩ := ha.head rfl hd
    rfl
  rcases h.run hc hk with ⟨x, hx, h3, h4, q, v, hq, ha, hd, ho⟩ | ⟨h3, hl, q, v, hq, ha, hd, ho⟩ | ⟨h3, hl1, hl2, n, r, i, q, v, hF, hi, hlo, hz, hq, ha, hd, ho, hJ⟩
  · exact ⟨m, q, v, L, F, c, ha, hbas ha hd, by omega, hd, h, by omega, .inl ⟨x, hx, h3, h4, ho, rfl⟩⟩
  · exact ⟨m, q, v, L, F, c, ha, hbas ha hd, by omega, hd, h, by omega, .inr (.inl ⟨h3, hl, ho, rfl⟩)⟩
  · have := cost_nine (m := m) (k := k) hi
    exact ⟨_, q, v, _, r, c + 1, ha, hbas ha hd, by omega, hd, hJ, Nat.le_refl _, .inr (.inr ⟨h3, hl1, hl2, n, hJ.ti.putLt (x := (k, n)) (by simp), ho, hJ.pi.kids (k, n) (by simp), rfl⟩)⟩
theorem kd2_wd (r : Ac) : ∀ i, i < 4 → WdI (kdH (kd14 2 r) i) := fun i hi => by
  have hp : ∀ a, WdI (pickI a 2) := fun a => by
    have := pickI_bd a 2 (by decide)
    unfold WdI
    omega
  match i, hi with
  | 0, _ => exact hp _
  | 1, _ => exact hp _
  | 2, _ => exact hp _
  | 3, _ => exact hp _
def atI (L : List (Kd × Nat)) : List Int := L.map fun x => (x.2 : Int)
def hadI (L : List (Kd × Nat)) : List Ac := L.map fun x => x.1
/-- what is known as long as kids come -/
structure InvA (w wr : World) (tb S N ii h : Nat) (m : List Int) (L : List (Kd × Nat)) (Am : Option Addr) (cm : Nat) (Ah : Option Addr) (ch : Nat) (Aa : Option Addr) (ca : Nat) : Prop where
  J : ∃ (cc : Nat) (F : List Nat), ProbeJ S N cc m L F ∧ cc ≤ ii
  hL : L.length = h
  hle : h ≤ ii
  le : ii ≤ 20
  om : Own wr w.heap.size (.slice Am m.length cm) m
  oh : OwnK wr w.heap.size (.slice Ah h ch) (hadI L)
  oa : Own wr w.heap.size (.slice Aa h ca) (atI L)
  tab : wr.heap[tb]? = some (.cells #[.int .i64 (S : Int), .int .i64 (N : Int)] 50 (0, 0))
  bel : Below w.heap.size w wr
theorem InvA.next {w wr wr' : World} {tb S N ii h : Nat} {m : List Int} {L : List (Kd × Nat)} {Am : Option Addr} {cm : Nat} {Ah : Option Addr} {ch : Nat} {Aa : Option Addr} {ca : Nat} (x : InvA w wr tb S N ii h m L Am cm Ah ch Aa ca) (hb : Below wr.heap.size wr wr') : InvA w wr' tb S N ii h m L Am cm Ah ch Aa ca :=
  ⟨x.J, x.hL, x.hle, x.le, own_next x.om hb, x.oh.next hb, own_next x.oa hb, (hb.block _ (lt_heap6' x.tab)).trans x.tab, x.bel.trans (hb.mono x.bel.size)⟩
def RgP (m : List Int) (m2 : List Int) (U : W8) (V : W8) (q : Nat) (S : Nat) (N : Nat) (tb : Nat) (k1 : Int) (k2 : Int) (k3 : Int) (k4 : Int) (Am : Option Addr) (cm : Nat) (w : World) (v3 : World) (a0 a9 : Act) (w9 : World) : Prop := ∃ (A9 : Option Addr) (c9 : Nat) (bb : Nat), a9 = ((((((((((((((((((a0.put (some 44) (.agg #[.int .i64 (S : Int), .int .i64 (N : Int)])).put (some 45) (.slice Am m.length cm)).put (some 46) (.agg #[.int .i64 k1, .int .i64 k2, .int .i64 k3, .int .i64 k4])).put (some 48) (.pointer (some ⟨tb, 0, none⟩))).put (some 49) (.int .i64 (S : Int))).put (some 50) (.int .i64 (5 * (S : Int)))).put (some 51) (.int .i64 (5 * (S : Int) + 9))).put (some 47) (w8V U)).put (some 52) (.tuple #[.slice A9 m2.length c9, w8V V, .int .i64 q, .bool true])).put (some 43) (.tuple #[.slice A9 m2.length c9, w8V V, .int .i64 q, .bool true])).put (some 53) (.slice A9 m2.length c9)).put (some 54) (w8V V)).put (some 55) (.int .i64 q)).put (some 56) (.bool true)).put (some 15) (.pointer (some ⟨bb, 0, none⟩))).put (some 14) (.slice A9 m2.length c9)).put (some 16) (.int .i64 q)).put (some 17) (.bool true)) ∧ Own w9 v3.heap.size (.slice A9 m2.length c9) m2 ∧ w9.heap[bb]? = some (.cells (w8A V) 39 (0, 0)) ∧ v3.heap.size ≤ bb ∧ Below v3.heap.size v3 w9
def LenR (h : Nat) (w : World) (e : Ending) (w' : World) : Prop := ∃ A c, e = .returned (.slice A h c) ∧ Below w.heap.size w w'
theorem lenR_of {l : List Int} {h : Nat} {w : World} {e : Ending} {w' : World} (hl : l.length = h) (x : NumsR l w e w') : LenR h w e w' := by
  obtain ⟨v, rfl, ho, hb⟩ := x
  obtain ⟨A, c, rfl, -, -⟩ := own_slice ho
  rw [hl]
  exact ⟨A, c, rfl, hb⟩
theorem InvA.nodesR {w wr : World} {tb S N ii h : Nat} {m : List Int} {L : List (Kd × Nat)} {Am : Option Addr} {cm : Nat} {Ah : Option Addr} {ch : Nat} {Aa : Option Addr} {ca : Nat} (x : InvA w wr tb S N ii h m L Am cm Ah ch Aa ca) (hT : TabS (S : Int) (N : Int)) :
    ∀ (W : World) (A : Option Addr) (c : Nat), w.heap.size ≤ W.heap.size → Own W w.heap.size (.slice A m.length c) m → Calls Try.prog 33 #[.agg #[.int .i64 (S : Int), .int .i64 (N : Int)], .slice A m.length c] W (LenR h W) := fun W A c hB hO => by
  obtain ⟨cc, F, hJ, -⟩ := x.J
  exact (pNodes_any W hT (by rw [hJ.len]) hB hO hJ.pi.tab.slots).mono fun e w' y => lenR_of (by rw [List.length_map, hJ.nodes]; exact x.hL) y
theorem InvA.freeR {w wr : World} {tb S N ii h : Nat} {m : List Int} {L : List (Kd × Nat)} {Am : Option Addr} {cm : Nat} {Ah : Option Addr} {ch : Nat} {Aa : Option Addr} {ca : Nat} (x : InvA w wr tb S N ii h m L Am cm Ah ch Aa ca) (hT : TabS (S : Int) (N : Int)) :
    ∃ k9 : Nat, (N : Int) - (h : Int) = (k9 : Int) ∧ ∀ (W : World) (A : Option Addr) (c : Nat), w.heap.size ≤ W.heap.size → Own W w.heap.size (.slice A m.length c) m → Calls Try.prog 34 #[.slice A m.length c, .int .i64 ((S : Int) + 4 * (N : Int))] W (LenR k9 W) := by
  obtain ⟨cc, F, hJ, -⟩ := x.J
  have hlen := hJ.pi.len
  have hh := x.hL
  refine ⟨F.length, by omega, fun W A c hB hO => ?_⟩
  have e : ((S + 4 * N : Nat) : Int) = (S : Int) + 4 * (N : Int) := by omega
  rw [← e]
  obtain ⟨t1, t2, t3, t4⟩ := hT
  exact (refFree14_any W hJ.pi.free.head hJ.pi.free.chain hJ.pi.free.lt (by omega) (by omega) (by rw [hJ.len]; omega) (by omega) hB hO).mono fun e w' y => lenR_of (by rw [List.length_map]) y
def RgN (m2 : List Int) (S N tb h k9 : Nat) (A9 : Option Addr) (c9 : Nat) (Ah : Option Addr) (ch : Nat) (v5 : World) (a0 a9 : Act) (w9 : World) : Prop := ∃ (A1 : Option Addr) (c1 : Nat) (A2 : Option Addr) (c2 : Nat), a9 = ((((((((((((((((((((((((a0.put (some 134) (.agg #[.int .i64 (S : Int), .int .i64 (N : Int)])).put (some 135) (.slice A9 m2.length c9)).put (some 138) (.slice Ah h ch)).put (some 139) (.int .i64 (h : Int))).put (some 136) (.slice A1 h c1)).put (some 137) (.int .i64 (h : Int))).put (some 140) (.bool false)).put (some 141) (.bool false)).put (some 142) (.slice A9 m2.length c9)).put (some 143) (.pointer (some ⟨tb, 0, none⟩))).put (some 144) (.int .i64 (S : Int))).put (some 145) (.pointer (some ⟨tb, 1, none⟩))).put (some 146) (.int .i64 (N : Int))).put (some 147) (.int .i64 (4 * (N : Int)))).put (some 148) (.int .i64 ((S : Int) + 4 * (N : Int)))).put (some 151) (.pointer (some ⟨tb, 1, none⟩))).put (some 152) (.int .i64 (N : Int))).put (some 153) (.slice Ah h ch)).put (some 154) (.int .i64 (h : Int))).put (some 155) (.int .i64 (k9 : Int))).put (some 149) (.slice A2 k9 c2)).put (some 150) (.int .i64 (k9 : Int))).put (some 156) (.bool false)).put (some 157) (.bool false)) ∧ Below v5.heap.size v5 w9
set_option maxHeartbeats 64000000 in
theorem probeAlone_law (n0 n1 : Int) (A : Option Addr) (raw : List Ac) (c : Nat) (w : World) (f0 : I64 n0) (f1 : I64 n1) (hR : NowA w A raw) (hl : raw.length ≤ 9223372036854775807) (hc : raw.length ≤ c) (hw : ∀ j, j < raw.length → Fine4A (raw.getD j deadA)) :
    Calls Try.prog 8 #[.int .i64 n0, .int .i64 n1, .slice A raw.length c] w fun e w' => e = .returned (.bool true) ∧ Below w.heap.size w w' := by
  have HR := Lib.hid hR
  have HW := Lib.hid hw
  have htab := fun W => table14_any n0 n1 W f0 f1
  have hs1 : 1 ≤ sl14 n0 ∧ sl14 n0 ≤ 9 := by have := pickI_bd n0 9 (by decide); unfold sl14; omega
  have hs2 : nd14 n1 ≤ 8 := by have := pickI_bd n1 9 (by decide); unfold nd14; omega
  generalize sl14 n0 = S at *
  generalize nd14 n1 = N at *
  obtain ⟨hS1, hS2⟩ := hs1
  have hTS : TabS (S : Int) (N : Int) := ⟨by omega, by omega, by omega, by omega⟩
  have hnew : ∀ W, Calls Try.prog 28 #[.agg #[.int .i64 (S : Int), .int .i64 (N : Int)]] W (NumsR (newT S N) W) := fun W => pNew_any W hTS
  have haw := awake14_any w
  have hJ0 := probeJ_new (S := S) (N := N) hS1 (by omega) (by omega)
  obtain ⟨M0, hM0⟩ : ∃ M0, M0 = newT S N := ⟨_, rfl⟩
  rw [← hM0] at hnew hJ0
  have HJ0 := Lib.hid hJ0
  have HTS := Lib.hid hTS
  have hSz : (S : Int) ≤ 9 := by omega
  have hNz : (N : Int) ≤ 8 := by omega
  clear hM0 hJ0 hTS hR hw f0 f1
  go_enter Try.func8, Try.ntmps8
  go_wp2_with fail
  refine haw.mono ?_
  rintro e w1 ⟨rfl, hb1⟩
  clear haw
  go_wp2_with fail
  refine (htab w1).mono ?_
  rintro e w1b ⟨rfl, hb1b⟩
  clear htab
  go_wp2_with fail
  have hT := heap_alloc_new w1b (.cells #[.int .i64 (S : Int), .int .i64 (N : Int)] 50)
  have h12 := (Below.refl w1b.heap.size w1b).alloc (Nat.le_refl _) (.cells #[.int .i64 (S : Int), .int .i64 (N : Int)] 50)
  generalize w1b.alloc (.cells #[.int .i64 (S : Int), .int .i64 (N : Int)] 50) = w2 at *
  have hnw := hnew w2
  clear hnew
  refine hnw.mono ?_
  rintro e w3 ⟨v0, rfl, hO0, hb3⟩
  clear hnw
  obtain ⟨A0, c0, rfl, -, -⟩ := own_slice hO0
  have hb1c := hb1.trans (hb1b.mono hb1.size)
  have hT3 := (hb3.block _ (lt_heap6' hT)).trans hT
  have hB3 := (hb1c.trans (h12.mono hb1c.size)).trans (hb3.mono (Nat.le_trans hb1c.size h12.size))
  have hO3 := own_mono hO0 (Nat.le_trans hb1c.size h12.size)
  obtain ⟨tb, htb⟩ : ∃ tb, tb = w1b.heap.size := ⟨_, rfl⟩
  rw [← htb] at hT3 ⊢
  have H3 := Lib.hid (And.intro hT3 (And.intro hB3 hO3))
  clear hT h12 hb1 hb1b hb1c hO0 hb3 hT3 hB3 hO3 htb
  go_wp2_with fail
  go_loopw [9, 10, 11, 12] (fun v9 v10 v11 i wr => ∃ (Am : Option Addr) (cm : Nat) (Ah : Option Addr) (ch : Nat) (Aa : Option Addr) (ca ii h : Nat) (m : List Int) (L : List (Kd × Nat)), v9 = .slice Am m.length cm ∧ v10 = .slice Ah h ch ∧ v11 = .slice Aa h ca ∧ i = .int .i64 ii ∧ Hid (InvA w wr tb S N ii h m L Am cm Ah ch Aa ca)) (fun _ _ _ i _ => 21 - (intOf i).toNat)
  case atStart =>
    obtain ⟨hT3, hB3, hO3⟩ := H3.out
    exact ⟨A0, c0, none, 0, none, 0, 0, 0, M0, [], rfl, rfl, rfl, rfl, (show Hid _ from ⟨⟨0, _, HJ0.out, Nat.le_refl _⟩, rfl, Nat.le_refl _, by omega, hO3, World.ownsRow_nil _ _ _ _, World.ownsRow_nil _ _ _ _, hT3, hB3⟩)⟩
  case round =>
    obtain ⟨Am, cm, Ah, ch, Aa, ca, ii, h, m, L, rfl, rfl, rfl, rfl, HH⟩ := hrel
    by_cases hlt : ii < raw.length ∧ ii < 20
    · obtain ⟨hi1, hi2⟩ := hlt
      have hI := HH.out
      obtain ⟨cc, F, hJ, hcc⟩ := hI.J
      have hle := hI.hle
      obtain ⟨m2, q, V, L2, F2, cc2, hal0, hbs, hq, hvd, hJ2, hc2, hways⟩ := hJ.next (by have := hI.le; omega) (kd2_wd (raw.getD ii deadA))
      have hint := fun W => pIntern_any (kd14 2 (raw.getD ii deadA)) W
      have hkds := fun W => kids14_any (raw.getD ii deadA) W (HW.out ii hi1)
      have halo := fun (W : World) (B : Nat) (A : Option Addr) (c : Nat) (hB : B ≤ W.heap.size) (hO : Own W B (.slice A m.length c) m) => (alone14_new (most := 5 * S + 9) W HTS.out hJ.len hal0 hvd hq (by omega) hB hO).mono (fun e w' x => show AloneR W.heap.size m2 V q W e w' from (hbs B W.heap.size) ▸ x)
      obtain ⟨b, off, rfl, hbl, hA4⟩ := HR.out ii hi1
      generalize raw.getD ii deadA = r at *
      obtain ⟨U, hU⟩ : ∃ U, U = internW (kd14 2 r) := ⟨_, rfl⟩
      rw [← hU] at hint halo
      generalize kd14 2 r = k at *
      obtain ⟨k1, k2, k3, k4⟩ := k
      obtain ⟨r1, r2, r3, r4⟩ := r
      have ecast : (((5 * S + 9 : Nat)) : Int) = 5 * (S : Int) + 9 := by omega
      rw [ecast] at halo
      replace hint : ∀ W, Calls Try.prog 31 #[.agg #[.int .i64 k1, .int .i64 k2, .int .i64 k3, .int .i64 k4]] W fun e w' => e = .returned (w8V U) ∧ Below W.heap.size W w' := hint
      replace hkds : ∀ W, Calls Try.prog 29 #[.agg #[.int .i64 r1, .int .i64 r2, .int .i64 r3, .int .i64 r4]] W fun e w' => e = .returned (.agg #[.int .i64 k1, .int .i64 k2, .int .i64 k3, .int .i64 k4]) ∧ Below W.heap.size W w' := hkds
      have hal : ∀ (W : World) (B : Nat) (A : Option Addr) (c : Nat), B ≤ W.heap.size → Own W B (.slice A m.length c) m → Calls Try.prog 30 #[.agg #[.int .i64 (S : Int), .int .i64 (N : Int)], .slice A m.length c, w8V U, .int .i64 (5 * (S : Int) + 9)] W (AloneR W.heap.size m2 V q W) := halo
      have hA5 := hA4.below hI.bel hbl
      have a0 := hA5.1
      have a1 := hA5.2.1
      have a2 := hA5.2.2.1
      have a3 := hA5.2.2.2
      have HX := Lib.hid (And.intro hI (And.intro hJ2 (And.intro hc2 (And.intro hcc (And.intro hways (And.intro hi2 hle))))))
      have hz1 : (ii : Int) < (raw.length : Int) := by omega
      have hz2 : (ii : Int) < 20 := by omega
      clear halo hbs ecast hU hA5 hA4 hJ hcc hI hq hvd hJ2 hc2 hways HH hbl hle hal0
      go_wp2_with fail
      refine (hkds _).mono ?_
      rintro e v2 ⟨rfl, hb2⟩
      clear hkds a0 a1 a2 a3
      go_wp2_with fail
      have hK := heap_alloc_new v2 (.cells #[.int .i64 k1, .int .i64 k2, .int .i64 k3, .int .i64 k4] 53)
      have hr3 := hb2.trans (((Below.refl v2.heap.size v2).alloc (Nat.le_refl _) (.cells #[.int .i64 k1, .int .i64 k2, .int .i64 k3, .int .i64 k4] 53)).mono hb2.size)
      have hkl : w.heap.size ≤ v2.heap.size := Nat.le_trans HX.out.1.bel.size hb2.size
      generalize v2.alloc (.cells #[.int .i64 k1, .int .i64 k2, .int .i64 k3, .int .i64 k4] 53) = v3 at *
      have hI3 := HX.out.1.next hr3
      have hO3 := hI3.om
      have hws : w.heap.size ≤ v3.heap.size := hI3.bel.size
      obtain ⟨kb, hkb⟩ : ∃ kb, kb = v2.heap.size := ⟨_, rfl⟩
      rw [← hkb] at hK hkl ⊢
      have HV := Lib.hid (And.intro hK (And.intro hI3.tab (And.intro hI3 hkl)))
      clear hr3 hkb hb2
      have L0 := fun (W : World) (hW : Below v3.heap.size v3 W) => (hW.cell (p := ⟨tb, 0, none⟩) (lt_heap6' HV.out.2.1)).trans (show v3.cell? ⟨tb, 0, none⟩ = some (.int .i64 (S : Int)) by rw [Lib.cell_of_heap HV.out.2.1]; rfl)
      have L1 := fun (W : World) (hW : Below v3.heap.size v3 W) => (hW.cell (p := ⟨tb, 1, none⟩) (lt_heap6' HV.out.2.1)).trans (show v3.cell? ⟨tb, 1, none⟩ = some (.int .i64 (N : Int)) by rw [Lib.cell_of_heap HV.out.2.1]; rfl)
      have K0 := fun (W : World) (hW : Below v3.heap.size v3 W) => (hW.cell (p := ⟨kb, 0, none⟩) (lt_heap6' HV.out.1)).trans (show v3.cell? ⟨kb, 0, none⟩ = some (.int .i64 k1) by rw [Lib.cell_of_heap HV.out.1]; rfl)
      have K1 := fun (W : World) (hW : Below v3.heap.size v3 W) => (hW.cell (p := ⟨kb, 1, none⟩) (lt_heap6' HV.out.1)).trans (show v3.cell? ⟨kb, 1, none⟩ = some (.int .i64 k2) by rw [Lib.cell_of_heap HV.out.1]; rfl)
      have K2 := fun (W : World) (hW : Below v3.heap.size v3 W) => (hW.cell (p := ⟨kb, 2, none⟩) (lt_heap6' HV.out.1)).trans (show v3.cell? ⟨kb, 2, none⟩ = some (.int .i64 k3) by rw [Lib.cell_of_heap HV.out.1]; rfl)
      have K3 := fun (W : World) (hW : Below v3.heap.size v3 W) => (hW.cell (p := ⟨kb, 3, none⟩) (lt_heap6' HV.out.1)).trans (show v3.cell? ⟨kb, 3, none⟩ = some (.int .i64 k4) by rw [Lib.cell_of_heap HV.out.1]; rfl)
      have W5 : IntKind.i64.wrap (5 * (S : Int)) = 5 * (S : Int) := by rw [IntKind.wrap_i64]; first | omega | (unfold wrap64; omega)
      have W6 : IntKind.i64.wrap (5 * (S : Int) + 9) = 5 * (S : Int) + 9 := by rw [IntKind.wrap_i64]; first | omega | (unfold wrap64; omega)
      clear hK hkl hI3
      refine region_calm_to (fun W => Below v3.heap.size v3 W) (RgP m m2 U V q S N tb k1 k2 k3 k4 Am cm w v3)
        (.calm 0 (.calm 1 (.calm 2 (.calm 4 (.calm 5 (.calm 6 (.calm 7 (.two 3 14 (.two 8 14 (.calm 9 (.calm 10 (.calm 11 (.calm 12 (.calm 13 (.only 14 (.only 15 (.only 16 (.only 17 (.only 18 .done)))))))))) (.only 8 (.calm 9 (.calm 10 (.calm 11 (.calm 12 (.calm 13 (.only 15 (.only 16 (.only 17 (.only 18 .done))))))))))) (.only 3 (.only 8 (.calm 9 (.calm 10 (.calm 11 (.calm 12 (.calm 13 (.only 15 (.only 16 (.only 17 (.only 18 .done))))))))))))))))))) (by kernel_rfl) (by kernel_rfl) (by kernel_rfl) (by rfl) (below_drewW _) ?_ ?_
      · skip
        refine ⟨_, _, .agg #[.int .i64 (S : Int), .int .i64 (N : Int)], rfl, rfl, ⟨rfl, fun W hW => by first | exact ⟨rfl, rfl⟩ | (have l0 := L0 W hW; have l1 := L1 W hW; simp only [Act.eval, execOp]; go_simp; try exact ⟨rfl, rfl⟩)⟩, ?_⟩
        simp only [Act.put, List.getElem_toArray, List.getElem_cons_zero, List.getElem_cons_succ, List.setIfInBounds_toArray, List.set_cons_succ, List.set_cons_zero]
        refine ⟨_, _, .slice Am m.length cm, rfl, rfl, ⟨rfl, fun W hW => by first | exact ⟨rfl, rfl⟩ | (simp only [Act.eval, execOp]; go_simp; try exact ⟨rfl, rfl⟩)⟩, ?_⟩
        simp only [Act.put, List.getElem_toArray, List.getElem_cons_zero, List.getElem_cons_succ, List.setIfInBounds_toArray, List.set_cons_succ, List.set_cons_zero]
        refine ⟨_, _, .agg #[.int .i64 k1, .int .i64 k2, .int .i64 k3, .int .i64 k4], rfl, rfl, ⟨rfl, fun W hW => by first | exact ⟨rfl, rfl⟩ | (have l0 := K0 W hW; have l1 := K1 W hW; have l2 := K2 W hW; have l3 := K3 W hW; simp only [Act.eval, execOp]; go_simp; try exact ⟨rfl, rfl⟩)⟩, ?_⟩
        simp only [Act.put, List.getElem_toArray, List.getElem_cons_zero, List.getElem_cons_succ, List.setIfInBounds_toArray, List.set_cons_succ, List.set_cons_zero]
        refine ⟨_, _, .pointer (some ⟨tb, 0, none⟩), rfl, rfl, ⟨rfl, fun W hW => by first | exact ⟨rfl, rfl⟩ | (simp only [Act.eval, execOp]; go_simp; try exact ⟨rfl, rfl⟩)⟩, ?_⟩
        simp only [Act.put, List.getElem_toArray, List.getElem_cons_zero, List.getElem_cons_succ, List.setIfInBounds_toArray, List.set_cons_succ, List.set_cons_zero]
        refine ⟨_, _, .int .i64 (S : Int), rfl, rfl, ⟨rfl, fun W hW => by first | exact ⟨rfl, rfl⟩ | (have l0 := L0 W hW; simp only [Act.eval, execOp]; go_simp; try exact ⟨rfl, rfl⟩)⟩, ?_⟩
        simp only [Act.put, List.getElem_toArray, List.getElem_cons_zero, List.getElem_cons_succ, List.setIfInBounds_toArray, List.set_cons_succ, List.set_cons_zero]
        refine ⟨_, _, .int .i64 (5 * (S : Int)), rfl, rfl, ⟨rfl, fun W hW => by first | exact ⟨rfl, rfl⟩ | (simp only [Act.eval, execOp]; go_simp; try exact ⟨rfl, rfl⟩)⟩, ?_⟩
        simp only [Act.put, List.getElem_toArray, List.getElem_cons_zero, List.getElem_cons_succ, List.setIfInBounds_toArray, List.set_cons_succ, List.set_cons_zero]
        refine ⟨_, _, .int .i64 (5 * (S : Int) + 9), rfl, rfl, ⟨rfl, fun W hW => by first | exact ⟨rfl, rfl⟩ | (simp only [Act.eval, execOp]; go_simp; try exact ⟨rfl, rfl⟩)⟩, ?_⟩
        simp only [Act.put, List.getElem_toArray, List.getElem_cons_zero, List.getElem_cons_succ, List.setIfInBounds_toArray, List.set_cons_succ, List.set_cons_zero]
        have hb_0 := below_drewW v3
        generalize v3.drew = y_0 at *
        have hO := own_next hO3 hb_0
        refine ⟨?_, ?_⟩
        · skip
          refine ⟨_, rfl, ?_⟩
          go_wp2_with fail
          refine (hint y_0).mono ?_
          rintro e y_1 ⟨rfl, hbx⟩
          replace hO := own_next hO hbx
          go_wp2_with fail
          have hb_1 := Qt.more hb_0 hb_0.size hbx
          clear hbx
          refine ⟨rfl, hb_1, ?_⟩
          refine ⟨?_, ?_⟩
          · skip
            refine ⟨_, rfl, ?_⟩
            go_wp2_with fail
            refine (hal y_1 w.heap.size _ _ (by have := hb_1.size; omega) hO).mono ?_
            rintro e y_2 ⟨A9, c9, rfl, hO9, hbx⟩
            clear hO
            have hO := own_mono hO9 hb_1.size
            clear hO9
            go_wp2_with fail
            have hb_2 := Qt.more hb_1 hb_1.size hbx
            clear hbx
            refine ⟨rfl, hb_2, ?_⟩
            refine ⟨_, _, .tuple #[.slice A9 m2.length c9, w8V V, .int .i64 q, .bool true], rfl, rfl, ⟨rfl, fun W hW => by first | exact ⟨rfl, rfl⟩ | (simp only [Act.eval, execOp]; go_simp; try exact ⟨rfl, rfl⟩)⟩, ?_⟩
            simp only [Act.put, List.getElem_toArray, List.getElem_cons_zero, List.getElem_cons_succ, List.setIfInBounds_toArray, List.set_cons_succ, List.set_cons_zero]
            refine ⟨_, _, .slice A9 m2.length c9, rfl, rfl, ⟨rfl, fun W hW => by first | exact ⟨rfl, rfl⟩ | (simp only [Act.eval, execOp]; go_simp; try exact ⟨rfl, rfl⟩)⟩, ?_⟩
            simp only [Act.put, List.getElem_toArray, List.getElem_cons_zero, List.getElem_cons_succ, List.setIfInBounds_toArray, List.set_cons_succ, List.set_cons_zero]
            refine ⟨_, _, w8V V, rfl, rfl, ⟨rfl, fun W hW => by first | exact ⟨rfl, rfl⟩ | (simp only [Act.eval, execOp]; go_simp; try exact ⟨rfl, rfl⟩)⟩, ?_⟩
            simp only [Act.put, List.getElem_toArray, List.getElem_cons_zero, List.getElem_cons_succ, List.setIfInBounds_toArray, List.set_cons_succ, List.set_cons_zero]
            refine ⟨_, _, .int .i64 q, rfl, rfl, ⟨rfl, fun W hW => by first | exact ⟨rfl, rfl⟩ | (simp only [Act.eval, execOp]; go_simp; try exact ⟨rfl, rfl⟩)⟩, ?_⟩
            simp only [Act.put, List.getElem_toArray, List.getElem_cons_zero, List.getElem_cons_succ, List.setIfInBounds_toArray, List.set_cons_succ, List.set_cons_zero]
            refine ⟨_, _, .bool true, rfl, rfl, ⟨rfl, fun W hW => by first | exact ⟨rfl, rfl⟩ | (simp only [Act.eval, execOp]; go_simp; try exact ⟨rfl, rfl⟩)⟩, ?_⟩
            simp only [Act.put, List.getElem_toArray, List.getElem_cons_zero, List.getElem_cons_succ, List.setIfInBounds_toArray, List.set_cons_succ, List.set_cons_zero]
            refine ⟨_, rfl, ?_⟩
            go_wp2_with fail
            have hbx := (Below.refl y_2.heap.size y_2).alloc (Nat.le_refl _) (.cells #[.int .i64 0, .int .i64 0, .int .i64 0, .int .i64 0, .int .i64 0, .int .i64 0, .int .i64 0, .int .i64 0, .int .i64 0, .int .i64 0, .bool false, .int .i64 0] 39)
            have hbox_3 := heap_alloc_new y_2 (.cells #[.int .i64 0, .int .i64 0, .int .i64 0, .int .i64 0, .int .i64 0, .int .i64 0, .int .i64 0, .int .i64 0, .int .i64 0, .int .i64 0, .bool false, .int .i64 0] 39)
            generalize y_2.alloc (.cells #[.int .i64 0, .int .i64 0, .int .i64 0, .int .i64 0, .int .i64 0, .int .i64 0, .int .i64 0, .int .i64 0, .int .i64 0, .int .i64 0, .bool false, .int .i64 0] 39) = y_3 at *
            have hb_3 := Qt.more hb_2 hb_2.size hbx
            have hbl := hb_2.size
            obtain ⟨bb, hbb⟩ : ∃ bb, bb = y_2.heap.size := ⟨_, rfl⟩
            rw [← hbb] at hbl hbox_3 ⊢
            replace hO := own_next hO hbx
            clear hbx hbb
            refine ⟨rfl, hb_3, ?_⟩
            refine ⟨_, rfl, ?_⟩
            go_wp2_with fail
            refine ⟨rfl, hb_3, ?_⟩
            refine ⟨_, rfl, ?_⟩
            have o0 : y_3.cell? ⟨bb, 0, none⟩ = some (.int .i64 0) := by rw [Lib.cell_of_heap hbox_3]; rfl
            have o1 : y_3.cell? ⟨bb, 1, none⟩ = some (.int .i64 0) := by rw [Lib.cell_of_heap hbox_3]; rfl
            have o2 : y_3.cell? ⟨bb, 2, none⟩ = some (.int .i64 0) := by rw [Lib.cell_of_heap hbox_3]; rfl
            have o3 : y_3.cell? ⟨bb, 3, none⟩ = some (.int .i64 0) := by rw [Lib.cell_of_heap hbox_3]; rfl
            have o4 : y_3.cell? ⟨bb, 4, none⟩ = some (.int .i64 0) := by rw [Lib.cell_of_heap hbox_3]; rfl
            have o5 : y_3.cell? ⟨bb, 5, none⟩ = some (.int .i64 0) := by rw [Lib.cell_of_heap hbox_3]; rfl
            have o6 : y_3.cell? ⟨bb, 6, none⟩ = some (.int .i64 0) := by rw [Lib.cell_of_heap hbox_3]; rfl
            have o7 : y_3.cell? ⟨bb, 7, none⟩ = some (.int .i64 0) := by rw [Lib.cell_of_heap hbox_3]; rfl
            have o8 : y_3.cell? ⟨bb, 8, none⟩ = some (.int .i64 0) := by rw [Lib.cell_of_heap hbox_3]; rfl
            have o9 : y_3.cell? ⟨bb, 9, none⟩ = some (.int .i64 0) := by rw [Lib.cell_of_heap hbox_3]; rfl
            have o10 : y_3.cell? ⟨bb, 10, none⟩ = some (.bool false) := by rw [Lib.cell_of_heap hbox_3]; rfl
            have o11 : y_3.cell? ⟨bb, 11, none⟩ = some (.int .i64 0) := by rw [Lib.cell_of_heap hbox_3]; rfl
            have fz : ∀ j, y_3.frozen? ⟨bb, j, none⟩ = false := fun j => Lib.frozen_of_heap hbox_3 j
            go_wp2_with fail
            clear o0 o1 o2 o3 o4 o5 o6 o7 o8 o9 o10 o11 fz
            obtain ⟨y_4, hy, hbox_4, hg⟩ := set12o y_3 bb zeroW8 V hbox_3
            try rw [hy]
            have hb_4 := below_grown hb_3 hg (fun k e => by injection e with e; omega) hb_3.size
            replace hO := hO.kept hg (.inr (own_type hO hbox_3 (by decide)))
            clear hy hg
            refine ⟨rfl, hb_4, ?_⟩
            refine ⟨_, rfl, ?_⟩
            go_wp2_with fail
            refine ⟨rfl, hb_4, ?_⟩
            refine ⟨_, rfl, ?_⟩
            go_wp2_with fail
            refine ⟨rfl, hb_4, ?_⟩
            exact ⟨A9, c9, bb, (by simp only [Act.put, List.setIfInBounds_toArray, List.set_cons_succ, List.set_cons_zero]), hO, hbox_4, hbl, hb_4⟩
          · skip
            refine ⟨_, rfl, ?_⟩
            go_wp2_with fail
            have hbx := (Below.refl y_1.heap.size y_1).alloc (Nat.le_refl _) (.cells #[.int .i64 0, .int .i64 0, .int .i64 0, .int .i64 0, .int .i64 0, .int .i64 0, .int .i64 0, .int .i64 0, .int .i64 0, .int .i64 0, .bool false, .int .i64 0] 39)
            have hbox_2 := heap_alloc_new y_1 (.cells #[.int .i64 0, .int .i64 0, .int .i64 0, .int .i64 0, .int .i64 0, .int .i64 0, .int .i64 0, .int .i64 0, .int .i64 0, .int .i64 0, .bool false, .int .i64 0] 39)
            generalize y_1.alloc (.cells #[.int .i64 0, .int .i64 0, .int .i64 0, .int .i64 0, .int .i64 0, .int .i64 0, .int .i64 0, .int .i64 0, .int .i64 0, .int .i64 0, .bool false, .int .i64 0] 39) = y_2 at *
            have hb_2 := Qt.more hb_1 hb_1.size hbx
            have hbl := hb_1.size
            obtain ⟨bb, hbb⟩ : ∃ bb, bb = y_1.heap.size := ⟨_, rfl⟩
            rw [← hbb] at hbl hbox_2 ⊢
            replace hO := own_next hO hbx
            clear hbx hbb
            refine ⟨rfl, hb_2, ?_⟩
            refine ⟨_, rfl, ?_⟩
            go_wp2_with fail
            refine (hal y_2 w.heap.size _ _ (by have := hb_2.size; omega) hO).mono ?_
            rintro e y_3 ⟨A9, c9, rfl, hO9, hbx⟩
            clear hO
            have hO := own_mono hO9 hb_2.size
            clear hO9
            go_wp2_with fail
            have hb_3 := Qt.more hb_2 hb_2.size hbx
            have hbox_3 := (hbx.block _ (lt_heap6' hbox_2)).trans hbox_2
            clear hbx
            refine ⟨rfl, hb_3, ?_⟩
            refine ⟨_, _, .tuple #[.slice A9 m2.length c9, w8V V, .int .i64 q, .bool true], rfl, rfl, ⟨rfl, fun W hW => by first | exact ⟨rfl, rfl⟩ | (simp only [Act.eval, execOp]; go_simp; try exact ⟨rfl, rfl⟩)⟩, ?_⟩
            simp only [Act.put, List.getElem_toArray, List.getElem_cons_zero, List.getElem_cons_succ, List.setIfInBounds_toArray, List.set_cons_succ, List.set_cons_zero]
            refine ⟨_, _, .slice A9 m2.length c9, rfl, rfl, ⟨rfl, fun W hW => by first | exact ⟨rfl, rfl⟩ | (simp only [Act.eval, execOp]; go_simp; try exact ⟨rfl, rfl⟩)⟩, ?_⟩
            simp only [Act.put, List.getElem_toArray, List.getElem_cons_zero, List.getElem_cons_succ, List.setIfInBounds_toArray, List.set_cons_succ, List.set_cons_zero]
            refine ⟨_, _, w8V V, rfl, rfl, ⟨rfl, fun W hW => by first | exact ⟨rfl, rfl⟩ | (simp only [Act.eval, execOp]; go_simp; try exact ⟨rfl, rfl⟩)⟩, ?_⟩
            simp only [Act.put, List.getElem_toArray, List.getElem_cons_zero, List.getElem_cons_succ, List.setIfInBounds_toArray, List.set_cons_succ, List.set_cons_zero]
            refine ⟨_, _, .int .i64 q, rfl, rfl, ⟨rfl, fun W hW => by first | exact ⟨rfl, rfl⟩ | (simp only [Act.eval, execOp]; go_simp; try exact ⟨rfl, rfl⟩)⟩, ?_⟩
            simp only [Act.put, List.getElem_toArray, List.getElem_cons_zero, List.getElem_cons_succ, List.setIfInBounds_toArray, List.set_cons_succ, List.set_cons_zero]
            refine ⟨_, _, .bool true, rfl, rfl, ⟨rfl, fun W hW => by first | exact ⟨rfl, rfl⟩ | (simp only [Act.eval, execOp]; go_simp; try exact ⟨rfl, rfl⟩)⟩, ?_⟩
            simp only [Act.put, List.getElem_toArray, List.getElem_cons_zero, List.getElem_cons_succ, List.setIfInBounds_toArray, List.set_cons_succ, List.set_cons_zero]
            refine ⟨_, rfl, ?_⟩
            go_wp2_with fail
            refine ⟨rfl, hb_3, ?_⟩
            refine ⟨_, rfl, ?_⟩
            have o0 : y_3.cell? ⟨bb, 0, none⟩ = some (.int .i64 0) := by rw [Lib.cell_of_heap hbox_3]; rfl
            have o1 : y_3.cell? ⟨bb, 1, none⟩ = some (.int .i64 0) := by rw [Lib.cell_of_heap hbox_3]; rfl
            have o2 : y_3.cell? ⟨bb, 2, none⟩ = some (.int .i64 0) := by rw [Lib.cell_of_heap hbox_3]; rfl
            have o3 : y_3.cell? ⟨bb, 3, none⟩ = some (.int .i64 0) := by rw [Lib.cell_of_heap hbox_3]; rfl
            have o4 : y_3.cell? ⟨bb, 4, none⟩ = some (.int .i64 0) := by rw [Lib.cell_of_heap hbox_3]; rfl
            have o5 : y_3.cell? ⟨bb, 5, none⟩ = some (.int .i64 0) := by rw [Lib.cell_of_heap hbox_3]; rfl
            have o6 : y_3.cell? ⟨bb, 6, none⟩ = some (.int .i64 0) := by rw [Lib.cell_of_heap hbox_3]; rfl
            have o7 : y_3.cell? ⟨bb, 7, none⟩ = some (.int .i64 0) := by rw [Lib.cell_of_heap hbox_3]; rfl
            have o8 : y_3.cell? ⟨bb, 8, none⟩ = some (.int .i64 0) := by rw [Lib.cell_of_heap hbox_3]; rfl
            have o9 : y_3.cell? ⟨bb, 9, none⟩ = some (.int .i64 0) := by rw [Lib.cell_of_heap hbox_3]; rfl
            have o10 : y_3.cell? ⟨bb, 10, none⟩ = some (.bool false) := by rw [Lib.cell_of_heap hbox_3]; rfl
            have o11 : y_3.cell? ⟨bb, 11, none⟩ = some (.int .i64 0) := by rw [Lib.cell_of_heap hbox_3]; rfl
            have fz : ∀ j, y_3.frozen? ⟨bb, j, none⟩ = false := fun j => Lib.frozen_of_heap hbox_3 j
            go_wp2_with fail
            clear o0 o1 o2 o3 o4 o5 o6 o7 o8 o9 o10 o11 fz
            obtain ⟨y_4, hy, hbox_4, hg⟩ := set12o y_3 bb zeroW8 V hbox_3
            try rw [hy]
            have hb_4 := below_grown hb_3 hg (fun k e => by injection e with e; omega) hb_3.size
            replace hO := hO.kept hg (.inr (own_type hO hbox_3 (by decide)))
            clear hy hg
            refine ⟨rfl, hb_4, ?_⟩
            refine ⟨_, rfl, ?_⟩
            go_wp2_with fail
            refine ⟨rfl, hb_4, ?_⟩
            refine ⟨_, rfl, ?_⟩
            go_wp2_with fail
            refine ⟨rfl, hb_4, ?_⟩
            exact ⟨A9, c9, bb, (by simp only [Act.put, List.setIfInBounds_toArray, List.set_cons_succ, List.set_cons_zero]), hO, hbox_4, hbl, hb_4⟩
        · skip
          refine ⟨_, rfl, ?_⟩
          go_wp2_with fail
          have hbx := (Below.refl y_0.heap.size y_0).alloc (Nat.le_refl _) (.cells #[.int .i64 0, .int .i64 0, .int .i64 0, .int .i64 0, .int .i64 0, .int .i64 0, .int .i64 0, .int .i64 0, .int .i64 0, .int .i64 0, .bool false, .int .i64 0] 39)
          have hbox_1 := heap_alloc_new y_0 (.cells #[.int .i64 0, .int .i64 0, .int .i64 0, .int .i64 0, .int .i64 0, .int .i64 0, .int .i64 0, .int .i64 0, .int .i64 0, .int .i64 0, .bool false, .int .i64 0] 39)
          generalize y_0.alloc (.cells #[.int .i64 0, .int .i64 0, .int .i64 0, .int .i64 0, .int .i64 0, .int .i64 0, .int .i64 0, .int .i64 0, .int .i64 0, .int .i64 0, .bool false, .int .i64 0] 39) = y_1 at *
          have hb_1 := Qt.more hb_0 hb_0.size hbx
          have hbl := hb_0.size
          obtain ⟨bb, hbb⟩ : ∃ bb, bb = y_0.heap.size := ⟨_, rfl⟩
          rw [← hbb] at hbl hbox_1 ⊢
          replace hO := own_next hO hbx
          clear hbx hbb
          refine ⟨rfl, hb_1, ?_⟩
          refine ⟨_, rfl, ?_⟩
          go_wp2_with fail
          refine (hint y_1).mono ?_
          rintro e y_2 ⟨rfl, hbx⟩
          replace hO := own_next hO hbx
          go_wp2_with fail
          have hb_2 := Qt.more hb_1 hb_1.size hbx
          have hbox_2 := (hbx.block _ (lt_heap6' hbox_1)).trans hbox_1
          clear hbx
          refine ⟨rfl, hb_2, ?_⟩
          refine ⟨_, rfl, ?_⟩
          go_wp2_with fail
          refine (hal y_2 w.heap.size _ _ (by have := hb_2.size; omega) hO).mono ?_
          rintro e y_3 ⟨A9, c9, rfl, hO9, hbx⟩
          clear hO
          have hO := own_mono hO9 hb_2.size
          clear hO9
          go_wp2_with fail
          have hb_3 := Qt.more hb_2 hb_2.size hbx
          have hbox_3 := (hbx.block _ (lt_heap6' hbox_2)).trans hbox_2
          clear hbx
          refine ⟨rfl, hb_3, ?_⟩
          refine ⟨_, _, .tuple #[.slice A9 m2.length c9, w8V V, .int .i64 q, .bool true], rfl, rfl, ⟨rfl, fun W hW => by first | exact ⟨rfl, rfl⟩ | (simp only [Act.eval, execOp]; go_simp; try exact ⟨rfl, rfl⟩)⟩, ?_⟩
          simp only [Act.put, List.getElem_toArray, List.getElem_cons_zero, List.getElem_cons_succ, List.setIfInBounds_toArray, List.set_cons_succ, List.set_cons_zero]
          refine ⟨_, _, .slice A9 m2.length c9, rfl, rfl, ⟨rfl, fun W hW => by first | exact ⟨rfl, rfl⟩ | (simp only [Act.eval, execOp]; go_simp; try exact ⟨rfl, rfl⟩)⟩, ?_⟩
          simp only [Act.put, List.getElem_toArray, List.getElem_cons_zero, List.getElem_cons_succ, List.setIfInBounds_toArray, List.set_cons_succ, List.set_cons_zero]
          refine ⟨_, _, w8V V, rfl, rfl, ⟨rfl, fun W hW => by first | exact ⟨rfl, rfl⟩ | (simp only [Act.eval, execOp]; go_simp; try exact ⟨rfl, rfl⟩)⟩, ?_⟩
          simp only [Act.put, List.getElem_toArray, List.getElem_cons_zero, List.getElem_cons_succ, List.setIfInBounds_toArray, List.set_cons_succ, List.set_cons_zero]
          refine ⟨_, _, .int .i64 q, rfl, rfl, ⟨rfl, fun W hW => by first | exact ⟨rfl, rfl⟩ | (simp only [Act.eval, execOp]; go_simp; try exact ⟨rfl, rfl⟩)⟩, ?_⟩
          simp only [Act.put, List.getElem_toArray, List.getElem_cons_zero, List.getElem_cons_succ, List.setIfInBounds_toArray, List.set_cons_succ, List.set_cons_zero]
          refine ⟨_, _, .bool true, rfl, rfl, ⟨rfl, fun W hW => by first | exact ⟨rfl, rfl⟩ | (simp only [Act.eval, execOp]; go_simp; try exact ⟨rfl, rfl⟩)⟩, ?_⟩
          simp only [Act.put, List.getElem_toArray, List.getElem_cons_zero, List.getElem_cons_succ, List.setIfInBounds_toArray, List.set_cons_succ, List.set_cons_zero]
          refine ⟨_, rfl, ?_⟩
          go_wp2_with fail
          refine ⟨rfl, hb_3, ?_⟩
          refine ⟨_, rfl, ?_⟩
          have o0 : y_3.cell? ⟨bb, 0, none⟩ = some (.int .i64 0) := by rw [Lib.cell_of_heap hbox_3]; rfl
          have o1 : y_3.cell? ⟨bb, 1, none⟩ = some (.int .i64 0) := by rw [Lib.cell_of_heap hbox_3]; rfl
          have o2 : y_3.cell? ⟨bb, 2, none⟩ = some (.int .i64 0) := by rw [Lib.cell_of_heap hbox_3]; rfl
          have o3 : y_3.cell? ⟨bb, 3, none⟩ = some (.int .i64 0) := by rw [Lib.cell_of_heap hbox_3]; rfl
          have o4 : y_3.cell? ⟨bb, 4, none⟩ = some (.int .i64 0) := by rw [Lib.cell_of_heap hbox_3]; rfl
          have o5 : y_3.cell? ⟨bb, 5, none⟩ = some (.int .i64 0) := by rw [Lib.cell_of_heap hbox_3]; rfl
          have o6 : y_3.cell? ⟨bb, 6, none⟩ = some (.int .i64 0) := by rw [Lib.cell_of_heap hbox_3]; rfl
          have o7 : y_3.cell? ⟨bb, 7, none⟩ = some (.int .i64 0) := by rw [Lib.cell_of_heap hbox_3]; rfl
          have o8 : y_3.cell? ⟨bb, 8, none⟩ = some (.int .i64 0) := by rw [Lib.cell_of_heap hbox_3]; rfl
          have o9 : y_3.cell? ⟨bb, 9, none⟩ = some (.int .i64 0) := by rw [Lib.cell_of_heap hbox_3]; rfl
          have o10 : y_3.cell? ⟨bb, 10, none⟩ = some (.bool false) := by rw [Lib.cell_of_heap hbox_3]; rfl
          have o11 : y_3.cell? ⟨bb, 11, none⟩ = some (.int .i64 0) := by rw [Lib.cell_of_heap hbox_3]; rfl
          have fz : ∀ j, y_3.frozen? ⟨bb, j, none⟩ = false := fun j => Lib.frozen_of_heap hbox_3 j
          go_wp2_with fail
          clear o0 o1 o2 o3 o4 o5 o6 o7 o8 o9 o10 o11 fz
          obtain ⟨y_4, hy, hbox_4, hg⟩ := set12o y_3 bb zeroW8 V hbox_3
          try rw [hy]
          have hb_4 := below_grown hb_3 hg (fun k e => by injection e with e; omega) hb_3.size
          replace hO := hO.kept hg (.inr (own_type hO hbox_3 (by decide)))
          clear hy hg
          refine ⟨rfl, hb_4, ?_⟩
          refine ⟨_, rfl, ?_⟩
          go_wp2_with fail
          refine ⟨rfl, hb_4, ?_⟩
          refine ⟨_, rfl, ?_⟩
          go_wp2_with fail
          refine ⟨rfl, hb_4, ?_⟩
          exact ⟨A9, c9, bb, (by simp only [Act.put, List.setIfInBounds_toArray, List.set_cons_succ, List.set_cons_zero]), hO, hbox_4, hbl, hb_4⟩
      · rintro a' v4 ⟨A9, c9, bb, rfl, hO4, hbx, hll, hb4⟩
        simp only [Act.put, List.setIfInBounds_toArray, List.set_cons_succ, List.set_cons_zero]
        obtain ⟨hK, hT3, hI3, hkl⟩ := HV.out
        have hK4 := (hb4.block _ (lt_heap6' hK)).trans hK
        have HF := Lib.hid (And.intro hK4 (And.intro (hI3.next hb4) (And.intro hO4 hbx)))
        have HD := Lib.hid (And.intro hws (And.intro hll (fun k e => (World.ownsRow.lt hI3.oa k e).2)))
        clear W5 W6 L0 L1 K0 K1 K2 K3 hK hT3 hI3 hkl hK4 hO4 hbx hO3 hal hint hb4 hws hll
        go_wp2_with fail
        go_loopw [18, 19] (fun v18 v19 wr => ∃ (j : Nat) (wv : Int), v18 = .int .i64 wv ∧ v19 = .int .i64 j ∧ j ≤ h ∧ Hid ((((∀ x ∈ L.take j, x.1 ≠ (k1, k2, k3, k4)) ∧ wv = -1) ∨ (∃ y ∈ L, y.1 = (k1, k2, k3, k4) ∧ wv = (y.2 : Int))) ∧ Below v4.heap.size v4 wr)) (fun _ v19 _ => h - (intOf v19).toNat)
        case atStart => exact ⟨0, -1, rfl, rfl, Nat.zero_le _, (show Hid _ from ⟨.inl ⟨by simp, rfl⟩, Below.refl _ _⟩)⟩
        case round =>
          obtain ⟨j, wv, rfl, rfl, hjh, HJ⟩ := hrel
          obtain ⟨hway, hbj⟩ := HJ.out
          obtain ⟨hK4, hI4, hO4, hbx⟩ := HF.out
          by_cases hj : j < h
          · have hLl := hI4.hL
            obtain ⟨Ah', ch', eh, hch, hnow⟩ := hI4.oh.slice
            injection eh with eh1 eh2 eh3
            have hjl : j < (hadI L).length := by unfold hadI; rw [List.length_map]; omega
            obtain ⟨bh, offh, ea, hbh, hA4⟩ := hnow j hjl
            rw [← eh1] at ea
            subst ea
            have hA5 := hA4.below hbj hbh
            obtain ⟨⟨A8, c8, e8, h8, hn8⟩⟩ : Nonempty (∃ A8 c8, Value.slice Aa h ca = .slice A8 (atI L).length c8 ∧ (atI L).length ≤ c8 ∧ Now v4 A8 (atI L)) := ⟨own_slice hI4.oa⟩
            injection e8 with e81 e82 e83
            have hjl2 : j < (atI L).length := by unfold atI; rw [List.length_map]; omega
            obtain ⟨ba, offa, eb, hba, hA6⟩ := hn8 j hjl2
            rw [← e81] at eb
            subst eb
            have y6 := (hbj.cell (p := ⟨ba, offa + j, none⟩) hba).trans hA6
            have kk := (hbj.block _ (lt_heap6' hK4)).trans hK4
            have hel : (hadI L).getD j deadA = (L.getD j ((k1, k2, k3, k4), 0)).1 := by unfold hadI; simp [List.getD_eq_getElem?_getD, List.getElem?_map, List.getElem?_eq_getElem (show j < L.length by omega)]
            have hat : (atI L).getD j 0 = ((L.getD j ((k1, k2, k3, k4), 0)).2 : Int) := by unfold atI; simp [List.getD_eq_getElem?_getD, List.getElem?_map, List.getElem?_eq_getElem (show j < L.length by omega)]
            have hmem : L.getD j ((k1, k2, k3, k4), 0) ∈ L := by rw [List.getD_eq_getElem?_getD, List.getElem?_eq_getElem (show j < L.length by omega)]; exact List.getElem_mem _
            have htk : L.take (j + 1) = L.take j ++ [L.getD j ((k1, k2, k3, k4), 0)] := by rw [List.take_add_one, List.getD_eq_getElem?_getD, List.getElem?_eq_getElem (show j < L.length by omega)]; rfl
            rw [hel] at hA5
            rw [hat] at y6
            generalize L.getD j ((k1, k2, k3, k4), 0) = z at *
            obtain ⟨⟨y1, y2, y3, y4⟩, nz⟩ := z
            simp only at hA5 y6
            obtain ⟨q0, q1, q2, q3⟩ := hA5
            simp only at q0 q1 q2 q3
            have heqj : ∀ W, (Op.equalIn 10000 53 (.agg #[.int .i64 y1, .int .i64 y2, .int .i64 y3, .int .i64 y4]) (.agg #[.int .i64 k1, .int .i64 k2, .int .i64 k3, .int .i64 k4])).run Try.prog W = .ok (decide (((y1, y2, y3, y4) : Kd) = (k1, k2, k3, k4))) W := fun W => by
              rw [show (10000 : Nat) = 9998 + 1 + 1 from rfl, eqK_at, kd_eq (y1, y2, y3, y4) (k1, k2, k3, k4)]
            have g0 := Qt.cell_in q0
            have g1 := Qt.cell_in q1
            have g2 := Qt.cell_in q2
            have g3 := Qt.cell_in q3
            have g4 := Qt.cell_in (show wr.cell? ⟨kb, 0, none⟩ = some (.int .i64 k1) by rw [Lib.cell_of_heap kk]; rfl)
            have g5 := Qt.cell_in (show wr.cell? ⟨kb, 1, none⟩ = some (.int .i64 k2) by rw [Lib.cell_of_heap kk]; rfl)
            have g6 := Qt.cell_in (show wr.cell? ⟨kb, 2, none⟩ = some (.int .i64 k3) by rw [Lib.cell_of_heap kk]; rfl)
            have g7 := Qt.cell_in (show wr.cell? ⟨kb, 3, none⟩ = some (.int .i64 k4) by rw [Lib.cell_of_heap kk]; rfl)
            have HY := Lib.hid (And.intro hway (And.intro hmem (And.intro htk hbj)))
            have hjz : (j : Int) < (h : Int) := by omega
            have hjb : (j : Int) ≤ 20 := by have := hI4.hle; have := hI4.le; omega
            have HJH : Hid (j < h) := hj
            have Y6 := Lib.hid y6
            clear hel hat hA4 hnow hn8 hA6 hI4 hO4 hbx hK4 kk hway hmem htk hbj HJ q0 q1 q2 q3 eh1 eh2 eh3 e81 e82 e83 h8 hch hjl hjl2 y6 hba hbh
            go_wp2_with fail
            by_cases hy : ((y1, y2, y3, y4) : Kd) = (k1, k2, k3, k4)
            · rw [decide_eq_true hy] at heqj
              refine Qt.below_all (by kernel_rfl) (by kernel_rfl) ?_
              iterate 6 (go_big_quiet_step (fail))
              refine wpQuiet_nil ?_
              intro wq hbq
              have d6 := Qt.keep hbq Y6.out
              clear g0 g1 g2 g3 g4 g5 g6 g7 heqj
              go_wp2_with fail
              go_roundw
              case measure => have := HJH.out; simp [intOf]; omega
              case rel =>
                obtain ⟨hway, hmem, htk, hbj⟩ := HY.out
                have hjh2 := HJH.out
                exact ⟨j + 1, nz, rfl, by go_num, by omega, (show Hid _ from ⟨.inr ⟨_, hmem, hy, rfl⟩, hbj.trans (hbq.mono hbj.size)⟩)⟩
            · rw [decide_eq_false hy] at heqj
              refine Qt.below_all (by kernel_rfl) (by kernel_rfl) ?_
              iterate 6 (go_big_quiet_step (fail))
              refine wpQuiet_nil ?_
              intro wq hbq
              clear g0 g1 g2 g3 g4 g5 g6 g7 heqj
              go_wp2_with fail
              go_roundw
              case measure => have := HJH.out; simp [intOf]; omega
              case rel =>
                obtain ⟨hway, hmem, htk, hbj⟩ := HY.out
                have hjh2 := HJH.out
                refine ⟨j + 1, wv, rfl, by go_num, by omega, (show Hid _ from ⟨?_, hbj.trans (hbq.mono hbj.size)⟩)⟩
                rcases hway with ⟨g1, g2⟩ | g
                · refine .inl ⟨fun x hx => ?_, g2⟩
                  rw [htk] at hx
                  rcases List.mem_append.1 hx with hx | hx
                  · exact g1 x hx
                  · rw [List.mem_singleton.1 hx]; exact hy
                · exact .inr g
          · have hjz : ¬ (j : Int) < (h : Int) := by omega
            obtain ⟨hI0, hJ2, hc2, hcc, hways, hi2, hle⟩ := HX.out
            obtain ⟨hws, hll, hla⟩ := HD.out
            have hLl := hI4.hL
            have hN1 : (∀ x ∈ L, x.1 ≠ (k1, k2, k3, k4)) → wv = -1 := fun g => by
              rcases hway with ⟨-, g2⟩ | ⟨y, hy, hy1, -⟩
              · exact g2
              · exact absurd hy1 (g y hy)
            have hN2 : ∀ x ∈ L, x.1 = (k1, k2, k3, k4) → (∀ y ∈ L, y.1 = (k1, k2, k3, k4) → y.2 = x.2) → wv = (x.2 : Int) := fun x hx hx1 hx2 => by
              rcases hway with ⟨g1, -⟩ | ⟨y, hy, hy1, hy2⟩
              · rw [List.take_of_length_le (by omega)] at g1
                exact absurd hx1 (g1 x hx)
              · rw [hy2, hx2 y hy hy1]
            have hI5 := hI4.next hbj
            have hO5 := own_next hO4 hbj
            have hK5 := (hbj.block _ (lt_heap6' hK4)).trans hK4
            have hX5 := (hbj.block _ (lt_heap6' hbx)).trans hbx
            have hM5 := own_mono hO5 hws
            have c11 : wr.cell? ⟨bb, 11, none⟩ = some (.int .i64 V.out) := by rw [Lib.cell_of_heap hX5]; rfl
            have s0 : wr.cell? ⟨tb, 0, none⟩ = some (.int .i64 (S : Int)) := by rw [Lib.cell_of_heap hI5.tab]; rfl
            have s1 : wr.cell? ⟨tb, 1, none⟩ = some (.int .i64 (N : Int)) := by rw [Lib.cell_of_heap hI5.tab]; rfl
            rcases hways with ⟨x, hx, hx1, hx2, hvo, hL2⟩ | ⟨hno, hll2, hvo, hL2⟩ | ⟨hno, hl1, hl2, n, hn, hvo, hkd, hL2⟩
            · have hwv := hN2 x hx hx1 hx2
              rw [hvo, ← hwv] at c11
              rw [hL2] at hJ2
              have hw0 : (0 : Int) ≤ wv := by omega
              have hI9 : InvA w wr tb S N (ii + 1) h m2 L A9 c9 Ah ch Aa ca := ⟨⟨cc2, F2, hJ2, by omega⟩, hLl, by omega, by omega, hM5, hI5.oh, hI5.oa, hI5.tab, hI5.bel⟩
              have hno8 := hI9.nodesR HTS.out
              obtain ⟨k9, hk9, hfr⟩ := hI9.freeR HTS.out
              have hO9 := hI9.om
              have hsz : w.heap.size ≤ wr.heap.size := hI9.bel.size
              have HI9 := Lib.hid hI9
              have W7 : IntKind.i64.wrap (4 * (N : Int)) = 4 * (N : Int) := by rw [IntKind.wrap_i64]; first | omega | (unfold wrap64; omega)
              have W8 : IntKind.i64.wrap ((S : Int) + 4 * (N : Int)) = (S : Int) + 4 * (N : Int) := by rw [IntKind.wrap_i64]; first | omega | (unfold wrap64; omega)
              have W9 : IntKind.i64.wrap ((N : Int) - (h : Int)) = (k9 : Int) := by rw [IntKind.wrap_i64, hk9]; first | omega | (unfold wrap64; omega)
              have L0 := fun (W : World) (hW : Below wr.heap.size wr W) => (hW.cell (p := ⟨tb, 0, none⟩) (lt_heap6' HI9.out.tab)).trans (show wr.cell? ⟨tb, 0, none⟩ = some (.int .i64 (S : Int)) by rw [Lib.cell_of_heap HI9.out.tab]; rfl)
              have L1 := fun (W : World) (hW : Below wr.heap.size wr W) => (hW.cell (p := ⟨tb, 1, none⟩) (lt_heap6' HI9.out.tab)).trans (show wr.cell? ⟨tb, 1, none⟩ = some (.int .i64 (N : Int)) by rw [Lib.cell_of_heap HI9.out.tab]; rfl)
              clear hI9 hk9
              clear hI0 hJ2 hc2 hcc hle hws hll hla hLl hN1 hN2 hI5 hO5 hK5 hX5 hM5 hx hx1 hx2 hvo hL2 hwv hway hbj hK4 hI4 hO4 hbx HJ hj s0 s1
              go_wp2_with fail
              refine region_calm_to (fun W => Below wr.heap.size wr W) (RgN m2 S N tb h k9 A9 c9 Ah ch wr)
                (.calm 0 (.calm 1 (.calm 4 (.calm 5 (.only 2 (.calm 3 (.calm 6 (.calm 7 (.calm 8 (.calm 9 (.calm 10 (.calm 11 (.calm 12 (.calm 13 (.calm 14 (.calm 17 (.calm 18 (.calm 19 (.calm 20 (.calm 21 (.only 15 (.calm 16 (.calm 22 (.calm 23 .done)))))))))))))))))))))))) (by kernel_rfl) (by kernel_rfl) (by kernel_rfl) (by rfl) (below_drewW _) ?_ ?_
              · skip
                refine ⟨_, _, .agg #[.int .i64 (S : Int), .int .i64 (N : Int)], rfl, rfl, ⟨rfl, fun W hW => by first | exact ⟨rfl, rfl⟩ | (have l0 := L0 W hW; have l1 := L1 W hW; simp only [Act.eval, execOp]; go_simp; try exact ⟨rfl, rfl⟩)⟩, ?_⟩
                simp only [Act.put, List.getElem_toArray, List.getElem_cons_zero, List.getElem_cons_succ, List.setIfInBounds_toArray, List.set_cons_succ, List.set_cons_zero]
                refine ⟨_, _, .slice A9 m2.length c9, rfl, rfl, ⟨rfl, fun W hW => by first | exact ⟨rfl, rfl⟩ | (simp only [Act.eval, execOp]; go_simp; try exact ⟨rfl, rfl⟩)⟩, ?_⟩
                simp only [Act.put, List.getElem_toArray, List.getElem_cons_zero, List.getElem_cons_succ, List.setIfInBounds_toArray, List.set_cons_succ, List.set_cons_zero]
                refine ⟨_, _, .slice Ah h ch, rfl, rfl, ⟨rfl, fun W hW => by first | exact ⟨rfl, rfl⟩ | (simp only [Act.eval, execOp]; go_simp; try exact ⟨rfl, rfl⟩)⟩, ?_⟩
                simp only [Act.put, List.getElem_toArray, List.getElem_cons_zero, List.getElem_cons_succ, List.setIfInBounds_toArray, List.set_cons_succ, List.set_cons_zero]
                refine ⟨_, _, .int .i64 (h : Int), rfl, rfl, ⟨rfl, fun W hW => by first | exact ⟨rfl, rfl⟩ | (simp only [Act.eval, execOp]; go_simp; try exact ⟨rfl, rfl⟩)⟩, ?_⟩
                simp only [Act.put, List.getElem_toArray, List.getElem_cons_zero, List.getElem_cons_succ, List.setIfInBounds_toArray, List.set_cons_succ, List.set_cons_zero]
                have hb_0 := below_drewW wr
                generalize wr.drew = y_0 at *
                have hO := own_next hO9 hb_0
                refine ⟨_, rfl, ?_⟩
                go_wp2_with fail
                refine (hno8 y_0 _ _ (Nat.le_trans hsz hb_0.size) hO).mono ?_
                rintro e y_1 ⟨A1, c1, rfl, hbx⟩
                replace hO := own_next hO hbx
                go_wp2_with fail
                have hb_1 := Qt.more hb_0 hb_0.size hbx
                clear hbx
                refine ⟨rfl, hb_1, ?_⟩
                refine ⟨_, _, .int .i64 (h : Int), rfl, rfl, ⟨rfl, fun W hW => by first | exact ⟨rfl, rfl⟩ | (simp only [Act.eval, execOp]; go_simp; try exact ⟨rfl, rfl⟩)⟩, ?_⟩
                simp only [Act.put, List.getElem_toArray, List.getElem_cons_zero, List.getElem_cons_succ, List.setIfInBounds_toArray, List.set_cons_succ, List.set_cons_zero]
                refine ⟨_, _, .bool false, rfl, rfl, ⟨rfl, fun W hW => by first | exact ⟨rfl, rfl⟩ | (simp only [Act.eval, execOp]; go_simp; try exact ⟨rfl, rfl⟩)⟩, ?_⟩
                simp only [Act.put, List.getElem_toArray, List.getElem_cons_zero, List.getElem_cons_succ, List.setIfInBounds_toArray, List.set_cons_succ, List.set_cons_zero]
                refine ⟨_, _, .bool false, rfl, rfl, ⟨rfl, fun W hW => by first | exact ⟨rfl, rfl⟩ | (simp only [Act.eval, execOp]; go_simp; try exact ⟨rfl, rfl⟩)⟩, ?_⟩
                simp only [Act.put, List.getElem_toArray, List.getElem_cons_zero, List.getElem_cons_succ, List.setIfInBounds_toArray, List.set_cons_succ, List.set_cons_zero]
                refine ⟨_, _, .slice A9 m2.length c9, rfl, rfl, ⟨rfl, fun W hW => by first | exact ⟨rfl, rfl⟩ | (simp only [Act.eval, execOp]; go_simp; try exact ⟨rfl, rfl⟩)⟩, ?_⟩
                simp only [Act.put, List.getElem_toArray, List.getElem_cons_zero, List.getElem_cons_succ, List.setIfInBounds_toArray, List.set_cons_succ, List.set_cons_zero]
                refine ⟨_, _, .pointer (some ⟨tb, 0, none⟩), rfl, rfl, ⟨rfl, fun W hW => by first | exact ⟨rfl, rfl⟩ | (simp only [Act.eval, execOp]; go_simp; try exact ⟨rfl, rfl⟩)⟩, ?_⟩
                simp only [Act.put, List.getElem_toArray, List.getElem_cons_zero, List.getElem_cons_succ, List.setIfInBounds_toArray, List.set_cons_succ, List.set_cons_zero]
                refine ⟨_, _, .int .i64 (S : Int), rfl, rfl, ⟨rfl, fun W hW => by first | exact ⟨rfl, rfl⟩ | (have l0 := L0 W hW; have l1 := L1 W hW; simp only [Act.eval, execOp]; go_simp; try exact ⟨rfl, rfl⟩)⟩, ?_⟩
                simp only [Act.put, List.getElem_toArray, List.getElem_cons_zero, List.getElem_cons_succ, List.setIfInBounds_toArray, List.set_cons_succ, List.set_cons_zero]
                refine ⟨_, _, .pointer (some ⟨tb, 1, none⟩), rfl, rfl, ⟨rfl, fun W hW => by first | exact ⟨rfl, rfl⟩ | (simp only [Act.eval, execOp]; go_simp; try exact ⟨rfl, rfl⟩)⟩, ?_⟩
                simp only [Act.put, List.getElem_toArray, List.getElem_cons_zero, List.getElem_cons_succ, List.setIfInBounds_toArray, List.set_cons_succ, List.set_cons_zero]
                refine ⟨_, _, .int .i64 (N : Int), rfl, rfl, ⟨rfl, fun W hW => by first | exact ⟨rfl, rfl⟩ | (have l0 := L0 W hW; have l1 := L1 W hW; simp only [Act.eval, execOp]; go_simp; try exact ⟨rfl, rfl⟩)⟩, ?_⟩
                simp only [Act.put, List.getElem_toArray, List.getElem_cons_zero, List.getElem_cons_succ, List.setIfInBounds_toArray, List.set_cons_succ, List.set_cons_zero]
                refine ⟨_, _, .int .i64 (4 * (N : Int)), rfl, rfl, ⟨rfl, fun W hW => by first | exact ⟨rfl, rfl⟩ | (simp only [Act.eval, execOp]; go_simp; try exact ⟨rfl, rfl⟩)⟩, ?_⟩
                simp only [Act.put, List.getElem_toArray, List.getElem_cons_zero, List.getElem_cons_succ, List.setIfInBounds_toArray, List.set_cons_succ, List.set_cons_zero]
                refine ⟨_, _, .int .i64 ((S : Int) + 4 * (N : Int)), rfl, rfl, ⟨rfl, fun W hW => by first | exact ⟨rfl, rfl⟩ | (simp only [Act.eval, execOp]; go_simp; try exact ⟨rfl, rfl⟩)⟩, ?_⟩
                simp only [Act.put, List.getElem_toArray, List.getElem_cons_zero, List.getElem_cons_succ, List.setIfInBounds_toArray, List.set_cons_succ, List.set_cons_zero]
                refine ⟨_, _, .pointer (some ⟨tb, 1, none⟩), rfl, rfl, ⟨rfl, fun W hW => by first | exact ⟨rfl, rfl⟩ | (simp only [Act.eval, execOp]; go_simp; try exact ⟨rfl, rfl⟩)⟩, ?_⟩
                simp only [Act.put, List.getElem_toArray, List.getElem_cons_zero, List.getElem_cons_succ, List.setIfInBounds_toArray, List.set_cons_succ, List.set_cons_zero]
                refine ⟨_, _, .int .i64 (N : Int), rfl, rfl, ⟨rfl, fun W hW => by first | exact ⟨rfl, rfl⟩ | (have l0 := L0 W hW; have l1 := L1 W hW; simp only [Act.eval, execOp]; go_simp; try exact ⟨rfl, rfl⟩)⟩, ?_⟩
                simp only [Act.put, List.getElem_toArray, List.getElem_cons_zero, List.getElem_cons_succ, List.setIfInBounds_toArray, List.set_cons_succ, List.set_cons_zero]
                refine ⟨_, _, .slice Ah h ch, rfl, rfl, ⟨rfl, fun W hW => by first | exact ⟨rfl, rfl⟩ | (simp only [Act.eval, execOp]; go_simp; try exact ⟨rfl, rfl⟩)⟩, ?_⟩
                simp only [Act.put, List.getElem_toArray, List.getElem_cons_zero, List.getElem_cons_succ, List.setIfInBounds_toArray, List.set_cons_succ, List.set_cons_zero]
                refine ⟨_, _, .int .i64 (h : Int), rfl, rfl, ⟨rfl, fun W hW => by first | exact ⟨rfl, rfl⟩ | (simp only [Act.eval, execOp]; go_simp; try exact ⟨rfl, rfl⟩)⟩, ?_⟩
                simp only [Act.put, List.getElem_toArray, List.getElem_cons_zero, List.getElem_cons_succ, List.setIfInBounds_toArray, List.set_cons_succ, List.set_cons_zero]
                refine ⟨_, _, .int .i64 (k9 : Int), rfl, rfl, ⟨rfl, fun W hW => by first | exact ⟨rfl, rfl⟩ | (simp only [Act.eval, execOp]; go_simp; try exact ⟨rfl, rfl⟩)⟩, ?_⟩
                simp only [Act.put, List.getElem_toArray, List.getElem_cons_zero, List.getElem_cons_succ, List.setIfInBounds_toArray, List.set_cons_succ, List.set_cons_zero]
                refine ⟨_, rfl, ?_⟩
                go_wp2_with fail
                refine (hfr y_1 _ _ (Nat.le_trans hsz hb_1.size) hO).mono ?_
                rintro e y_2 ⟨A2, c2, rfl, hbx⟩
                go_wp2_with fail
                have hb_2 := Qt.more hb_1 hb_1.size hbx
                clear hbx
                refine ⟨rfl, hb_2, ?_⟩
                refine ⟨_, _, .int .i64 (k9 : Int), rfl, rfl, ⟨rfl, fun W hW => by first | exact ⟨rfl, rfl⟩ | (simp only [Act.eval, execOp]; go_simp; try exact ⟨rfl, rfl⟩)⟩, ?_⟩
                simp only [Act.put, List.getElem_toArray, List.getElem_cons_zero, List.getElem_cons_succ, List.setIfInBounds_toArray, List.set_cons_succ, List.set_cons_zero]
                refine ⟨_, _, .bool false, rfl, rfl, ⟨rfl, fun W hW => by first | exact ⟨rfl, rfl⟩ | (simp only [Act.eval, execOp]; go_simp; try exact ⟨rfl, rfl⟩)⟩, ?_⟩
                simp only [Act.put, List.getElem_toArray, List.getElem_cons_zero, List.getElem_cons_succ, List.setIfInBounds_toArray, List.set_cons_succ, List.set_cons_zero]
                refine ⟨_, _, .bool false, rfl, rfl, ⟨rfl, fun W hW => by first | exact ⟨rfl, rfl⟩ | (simp only [Act.eval, execOp]; go_simp; try exact ⟨rfl, rfl⟩)⟩, ?_⟩
                simp only [Act.put, List.getElem_toArray, List.getElem_cons_zero, List.getElem_cons_succ, List.setIfInBounds_toArray, List.set_cons_succ, List.set_cons_zero]
                exact ⟨A1, c1, A2, c2, (by simp only [Act.put, List.setIfInBounds_toArray, List.set_cons_succ, List.set_cons_zero]), hb_2⟩
              · rintro a' v9 ⟨A1, c1, A2, c2, rfl, hb9⟩
                simp only [Act.put, List.setIfInBounds_toArray, List.set_cons_succ, List.set_cons_zero]
                clear L0 L1 W7 W8 W9 hno8 hfr
                go_wp2_with fail
                go_roundw
                case measure => simp [intOf]; omega
                case rel => exact ⟨A9, c9, Ah, ch, Aa, ca, ii + 1, h, m2, L, rfl, rfl, rfl, by go_num, (show Hid _ from HI9.out.next hb9)⟩
            · have hwv := hN1 hno
              rw [hvo] at c11
              rw [hL2] at hJ2
              subst hwv
              have hI9 : InvA w wr tb S N (ii + 1) h m2 L A9 c9 Ah ch Aa ca := ⟨⟨cc2, F2, hJ2, by omega⟩, hLl, by omega, by omega, hM5, hI5.oh, hI5.oa, hI5.tab, hI5.bel⟩
              have hlnS := hJ2.pi.len
              have hF2 := hI9.J
              have hno8 := hI9.nodesR HTS.out
              obtain ⟨k9, hk9, hfr⟩ := hI9.freeR HTS.out
              have hO9 := hI9.om
              have hsz : w.heap.size ≤ wr.heap.size := hI9.bel.size
              have HI9 := Lib.hid hI9
              have W7 : IntKind.i64.wrap (4 * (N : Int)) = 4 * (N : Int) := by rw [IntKind.wrap_i64]; first | omega | (unfold wrap64; omega)
              have W8 : IntKind.i64.wrap ((S : Int) + 4 * (N : Int)) = (S : Int) + 4 * (N : Int) := by rw [IntKind.wrap_i64]; first | omega | (unfold wrap64; omega)
              have W9 : IntKind.i64.wrap ((N : Int) - (h : Int)) = (k9 : Int) := by rw [IntKind.wrap_i64, hk9]; first | omega | (unfold wrap64; omega)
              have L0 := fun (W : World) (hW : Below wr.heap.size wr W) => (hW.cell (p := ⟨tb, 0, none⟩) (lt_heap6' HI9.out.tab)).trans (show wr.cell? ⟨tb, 0, none⟩ = some (.int .i64 (S : Int)) by rw [Lib.cell_of_heap HI9.out.tab]; rfl)
              have L1 := fun (W : World) (hW : Below wr.heap.size wr W) => (hW.cell (p := ⟨tb, 1, none⟩) (lt_heap6' HI9.out.tab)).trans (show wr.cell? ⟨tb, 1, none⟩ = some (.int .i64 (N : Int)) by rw [Lib.cell_of_heap HI9.out.tab]; rfl)
              clear hI9 hk9
              by_cases hsn0 : N < S
              · have hsn : (N : Int) < (S : Int) := by omega
                have hz3 : ¬ (h : Int) < (N : Int) := by omega
                clear hI0 hJ2 hc2 hcc hle hws hll hla hLl hN1 hN2 hI5 hO5 hK5 hX5 hM5 hll2 hvo hL2 hway hbj hK4 hI4 hO4 hbx HJ hj hlnS hF2 hsn0
                go_wp2_with fail
                refine region_calm_to (fun W => Below wr.heap.size wr W) (RgN m2 S N tb h k9 A9 c9 Ah ch wr)
                  (.calm 0 (.calm 1 (.calm 4 (.calm 5 (.only 2 (.calm 3 (.calm 6 (.calm 7 (.calm 8 (.calm 9 (.calm 10 (.calm 11 (.calm 12 (.calm 13 (.calm 14 (.calm 17 (.calm 18 (.calm 19 (.calm 20 (.calm 21 (.only 15 (.calm 16 (.calm 22 (.calm 23 .done)))))))))))))))))))))))) (by kernel_rfl) (by kernel_rfl) (by kernel_rfl) (by rfl) (below_drewW _) ?_ ?_
                · skip
                  refine ⟨_, _, .agg #[.int .i64 (S : Int), .int .i64 (N : Int)], rfl, rfl, ⟨rfl, fun W hW => by first | exact ⟨rfl, rfl⟩ | (have l0 := L0 W hW; have l1 := L1 W hW; simp only [Act.eval, execOp]; go_simp; try exact ⟨rfl, rfl⟩)⟩, ?_⟩
                  simp only [Act.put, List.getElem_toArray, List.getElem_cons_zero, List.getElem_cons_succ, List.setIfInBounds_toArray, List.set_cons_succ, List.set_cons_zero]
                  refine ⟨_, _, .slice A9 m2.length c9, rfl, rfl, ⟨rfl, fun W hW => by first | exact ⟨rfl, rfl⟩ | (simp only [Act.eval, execOp]; go_simp; try exact ⟨rfl, rfl⟩)⟩, ?_⟩
                  simp only [Act.put, List.getElem_toArray, List.getElem_cons_zero, List.getElem_cons_succ, List.setIfInBounds_toArray, List.set_cons_succ, List.set_cons_zero]
                  refine ⟨_, _, .slice Ah h ch, rfl, rfl, ⟨rfl, fun W hW => by first | exact ⟨rfl, rfl⟩ | (simp only [Act.eval, execOp]; go_simp; try exact ⟨rfl, rfl⟩)⟩, ?_⟩
                  simp only [Act.put, List.getElem_toArray, List.getElem_cons_zero, List.getElem_cons_succ, List.setIfInBounds_toArray, List.set_cons_succ, List.set_cons_zero]
                  refine ⟨_, _, .int .i64 (h : Int), rfl, rfl, ⟨rfl, fun W hW => by first | exact ⟨rfl, rfl⟩ | (simp only [Act.eval, execOp]; go_simp; try exact ⟨rfl, rfl⟩)⟩, ?_⟩
                  simp only [Act.put, List.getElem_toArray, List.getElem_cons_zero, List.getElem_cons_succ, List.setIfInBounds_toArray, List.set_cons_succ, List.set_cons_zero]
                  have hb_0 := below_drewW wr
                  generalize wr.drew = y_0 at *
                  have hO := own_next hO9 hb_0
                  refine ⟨_, rfl, ?_⟩
                  go_wp2_with fail
                  refine (hno8 y_0 _ _ (Nat.le_trans hsz hb_0.size) hO).mono ?_
                  rintro e y_1 ⟨A1, c1, rfl, hbx⟩
                  replace hO := own_next hO hbx
                  go_wp2_with fail
                  have hb_1 := Qt.more hb_0 hb_0.size hbx
                  clear hbx
                  refine ⟨rfl, hb_1, ?_⟩
                  refine ⟨_, _, .int .i64 (h : Int), rfl, rfl, ⟨rfl, fun W hW => by first | exact ⟨rfl, rfl⟩ | (simp only [Act.eval, execOp]; go_simp; try exact ⟨rfl, rfl⟩)⟩, ?_⟩
                  simp only [Act.put, List.getElem_toArray, List.getElem_cons_zero, List.getElem_cons_succ, List.setIfInBounds_toArray, List.set_cons_succ, List.set_cons_zero]
                  refine ⟨_, _, .bool false, rfl, rfl, ⟨rfl, fun W hW => by first | exact ⟨rfl, rfl⟩ | (simp only [Act.eval, execOp]; go_simp; try exact ⟨rfl, rfl⟩)⟩, ?_⟩
                  simp only [Act.put, List.getElem_toArray, List.getElem_cons_zero, List.getElem_cons_succ, List.setIfInBounds_toArray, List.set_cons_succ, List.set_cons_zero]
                  refine ⟨_, _, .bool false, rfl, rfl, ⟨rfl, fun W hW => by first | exact ⟨rfl, rfl⟩ | (simp only [Act.eval, execOp]; go_simp; try exact ⟨rfl, rfl⟩)⟩, ?_⟩
                  simp only [Act.put, List.getElem_toArray, List.getElem_cons_zero, List.getElem_cons_succ, List.setIfInBounds_toArray, List.set_cons_succ, List.set_cons_zero]
                  refine ⟨_, _, .slice A9 m2.length c9, rfl, rfl, ⟨rfl, fun W hW => by first | exact ⟨rfl, rfl⟩ | (simp only [Act.eval, execOp]; go_simp; try exact ⟨rfl, rfl⟩)⟩, ?_⟩
                  simp only [Act.put, List.getElem_toArray, List.getElem_cons_zero, List.getElem_cons_succ, List.setIfInBounds_toArray, List.set_cons_succ, List.set_cons_zero]
                  refine ⟨_, _, .pointer (some ⟨tb, 0, none⟩), rfl, rfl, ⟨rfl, fun W hW => by first | exact ⟨rfl, rfl⟩ | (simp only [Act.eval, execOp]; go_simp; try exact ⟨rfl, rfl⟩)⟩, ?_⟩
                  simp only [Act.put, List.getElem_toArray, List.getElem_cons_zero, List.getElem_cons_succ, List.setIfInBounds_toArray, List.set_cons_succ, List.set_cons_zero]
                  refine ⟨_, _, .int .i64 (S : Int), rfl, rfl, ⟨rfl, fun W hW => by first | exact ⟨rfl, rfl⟩ | (have l0 := L0 W hW; have l1 := L1 W hW; simp only [Act.eval, execOp]; go_simp; try exact ⟨rfl, rfl⟩)⟩, ?_⟩
                  simp only [Act.put, List.getElem_toArray, List.getElem_cons_zero, List.getElem_cons_succ, List.setIfInBounds_toArray, List.set_cons_succ, List.set_cons_zero]
                  refine ⟨_, _, .pointer (some ⟨tb, 1, none⟩), rfl, rfl, ⟨rfl, fun W hW => by first | exact ⟨rfl, rfl⟩ | (simp only [Act.eval, execOp]; go_simp; try exact ⟨rfl, rfl⟩)⟩, ?_⟩
                  simp only [Act.put, List.getElem_toArray, List.getElem_cons_zero, List.getElem_cons_succ, List.setIfInBounds_toArray, List.set_cons_succ, List.set_cons_zero]
                  refine ⟨_, _, .int .i64 (N : Int), rfl, rfl, ⟨rfl, fun W hW => by first | exact ⟨rfl, rfl⟩ | (have l0 := L0 W hW; have l1 := L1 W hW; simp only [Act.eval, execOp]; go_simp; try exact ⟨rfl, rfl⟩)⟩, ?_⟩
                  simp only [Act.put, List.getElem_toArray, List.getElem_cons_zero, List.getElem_cons_succ, List.setIfInBounds_toArray, List.set_cons_succ, List.set_cons_zero]
                  refine ⟨_, _, .int .i64 (4 * (N : Int)), rfl, rfl, ⟨rfl, fun W hW => by first | exact ⟨rfl, rfl⟩ | (simp only [Act.eval, execOp]; go_simp; try exact ⟨rfl, rfl⟩)⟩, ?_⟩
                  simp only [Act.put, List.getElem_toArray, List.getElem_cons_zero, List.getElem_cons_succ, List.setIfInBounds_toArray, List.set_cons_succ, List.set_cons_zero]
                  refine ⟨_, _, .int .i64 ((S : Int) + 4 * (N : Int)), rfl, rfl, ⟨rfl, fun W hW => by first | exact ⟨rfl, rfl⟩ | (simp only [Act.eval, execOp]; go_simp; try exact ⟨rfl, rfl⟩)⟩, ?_⟩
                  simp only [Act.put, List.getElem_toArray, List.getElem_cons_zero, List.getElem_cons_succ, List.setIfInBounds_toArray, List.set_cons_succ, List.set_cons_zero]
                  refine ⟨_, _, .pointer (some ⟨tb, 1, none⟩), rfl, rfl, ⟨rfl, fun W hW => by first | exact ⟨rfl, rfl⟩ | (simp only [Act.eval, execOp]; go_simp; try exact ⟨rfl, rfl⟩)⟩, ?_⟩
                  simp only [Act.put, List.getElem_toArray, List.getElem_cons_zero, List.getElem_cons_succ, List.setIfInBounds_toArray, List.set_cons_succ, List.set_cons_zero]
                  refine ⟨_, _, .int .i64 (N : Int), rfl, rfl, ⟨rfl, fun W hW => by first | exact ⟨rfl, rfl⟩ | (have l0 := L0 W hW; have l1 := L1 W hW; simp only [Act.eval, execOp]; go_simp; try exact ⟨rfl, rfl⟩)⟩, ?_⟩
                  simp only [Act.put, List.getElem_toArray, List.getElem_cons_zero, List.getElem_cons_succ, List.setIfInBounds_toArray, List.set_cons_succ, List.set_cons_zero]
                  refine ⟨_, _, .slice Ah h ch, rfl, rfl, ⟨rfl, fun W hW => by first | exact ⟨rfl, rfl⟩ | (simp only [Act.eval, execOp]; go_simp; try exact ⟨rfl, rfl⟩)⟩, ?_⟩
                  simp only [Act.put, List.getElem_toArray, List.getElem_cons_zero, List.getElem_cons_succ, List.setIfInBounds_toArray, List.set_cons_succ, List.set_cons_zero]
                  refine ⟨_, _, .int .i64 (h : Int), rfl, rfl, ⟨rfl, fun W hW => by first | exact ⟨rfl, rfl⟩ | (simp only [Act.eval, execOp]; go_simp; try exact ⟨rfl, rfl⟩)⟩, ?_⟩
                  simp only [Act.put, List.getElem_toArray, List.getElem_cons_zero, List.getElem_cons_succ, List.setIfInBounds_toArray, List.set_cons_succ, List.set_cons_zero]
                  refine ⟨_, _, .int .i64 (k9 : Int), rfl, rfl, ⟨rfl, fun W hW => by first | exact ⟨rfl, rfl⟩ | (simp only [Act.eval, execOp]; go_simp; try exact ⟨rfl, rfl⟩)⟩, ?_⟩
                  simp only [Act.put, List.getElem_toArray, List.getElem_cons_zero, List.getElem_cons_succ, List.setIfInBounds_toArray, List.set_cons_succ, List.set_cons_zero]
                  refine ⟨_, rfl, ?_⟩
                  go_wp2_with fail
                  refine (hfr y_1 _ _ (Nat.le_trans hsz hb_1.size) hO).mono ?_
                  rintro e y_2 ⟨A2, c2, rfl, hbx⟩
                  go_wp2_with fail
                  have hb_2 := Qt.more hb_1 hb_1.size hbx
                  clear hbx
                  refine ⟨rfl, hb_2, ?_⟩
                  refine ⟨_, _, .int .i64 (k9 : Int), rfl, rfl, ⟨rfl, fun W hW => by first | exact ⟨rfl, rfl⟩ | (simp only [Act.eval, execOp]; go_simp; try exact ⟨rfl, rfl⟩)⟩, ?_⟩
                  simp only [Act.put, List.getElem_toArray, List.getElem_cons_zero, List.getElem_cons_succ, List.setIfInBounds_toArray, List.set_cons_succ, List.set_cons_zero]
                  refine ⟨_, _, .bool false, rfl, rfl, ⟨rfl, fun W hW => by first | exact ⟨rfl, rfl⟩ | (simp only [Act.eval, execOp]; go_simp; try exact ⟨rfl, rfl⟩)⟩, ?_⟩
                  simp only [Act.put, List.getElem_toArray, List.getElem_cons_zero, List.getElem_cons_succ, List.setIfInBounds_toArray, List.set_cons_succ, List.set_cons_zero]
                  refine ⟨_, _, .bool false, rfl, rfl, ⟨rfl, fun W hW => by first | exact ⟨rfl, rfl⟩ | (simp only [Act.eval, execOp]; go_simp; try exact ⟨rfl, rfl⟩)⟩, ?_⟩
                  simp only [Act.put, List.getElem_toArray, List.getElem_cons_zero, List.getElem_cons_succ, List.setIfInBounds_toArray, List.set_cons_succ, List.set_cons_zero]
                  exact ⟨A1, c1, A2, c2, (by simp only [Act.put, List.setIfInBounds_toArray, List.set_cons_succ, List.set_cons_zero]), hb_2⟩
                · rintro a' v9 ⟨A1, c1, A2, c2, rfl, hb9⟩
                  simp only [Act.put, List.setIfInBounds_toArray, List.set_cons_succ, List.set_cons_zero]
                  clear L0 L1 W7 W8 W9 hno8 hfr
                  go_wp2_with fail
                  go_roundw
                  case measure => simp [intOf]; omega
                  case rel => exact ⟨A9, c9, Ah, ch, Aa, ca, ii + 1, h, m2, L, rfl, rfl, rfl, by go_num, (show Hid _ from HI9.out.next hb9)⟩
              · have hsn : ¬ (N : Int) < (S : Int) := by omega
                have hz3 : ¬ (h : Int) < (S : Int) := by omega
                clear hI0 hJ2 hc2 hcc hle hws hll hla hLl hN1 hN2 hI5 hO5 hK5 hX5 hM5 hll2 hvo hL2 hway hbj hK4 hI4 hO4 hbx HJ hj hlnS hF2 hsn0
                go_wp2_with fail
                refine region_calm_to (fun W => Below wr.heap.size wr W) (RgN m2 S N tb h k9 A9 c9 Ah ch wr)
                  (.calm 0 (.calm 1 (.calm 4 (.calm 5 (.only 2 (.calm 3 (.calm 6 (.calm 7 (.calm 8 (.calm 9 (.calm 10 (.calm 11 (.calm 12 (.calm 13 (.calm 14 (.calm 17 (.calm 18 (.calm 19 (.calm 20 (.calm 21 (.only 15 (.calm 16 (.calm 22 (.calm 23 .done)))))))))))))))))))))))) (by kernel_rfl) (by kernel_rfl) (by kernel_rfl) (by rfl) (below_drewW _) ?_ ?_
                · skip
                  refine ⟨_, _, .agg #[.int .i64 (S : Int), .int .i64 (N : Int)], rfl, rfl, ⟨rfl, fun W hW => by first | exact ⟨rfl, rfl⟩ | (have l0 := L0 W hW; have l1 := L1 W hW; simp only [Act.eval, execOp]; go_simp; try exact ⟨rfl, rfl⟩)⟩, ?_⟩
                  simp only [Act.put, List.getElem_toArray, List.getElem_cons_zero, List.getElem_cons_succ, List.setIfInBounds_toArray, List.set_cons_succ, List.set_cons_zero]
                  refine ⟨_, _, .slice A9 m2.length c9, rfl, rfl, ⟨rfl, fun W hW => by first | exact ⟨rfl, rfl⟩ | (simp only [Act.eval, execOp]; go_simp; try exact ⟨rfl, rfl⟩)⟩, ?_⟩
                  simp only [Act.put, List.getElem_toArray, List.getElem_cons_zero, List.getElem_cons_succ, List.setIfInBounds_toArray, List.set_cons_succ, List.set_cons_zero]
                  refine ⟨_, _, .slice Ah h ch, rfl, rfl, ⟨rfl, fun W hW => by first | exact ⟨rfl, rfl⟩ | (simp only [Act.eval, execOp]; go_simp; try exact ⟨rfl, rfl⟩)⟩, ?_⟩
                  simp only [Act.put, List.getElem_toArray, List.getElem_cons_zero, List.getElem_cons_succ, List.setIfInBounds_toArray, List.set_cons_succ, List.set_cons_zero]
                  refine ⟨_, _, .int .i64 (h : Int), rfl, rfl, ⟨rfl, fun W hW => by first | exact ⟨rfl, rfl⟩ | (simp only [Act.eval, execOp]; go_simp; try exact ⟨rfl, rfl⟩)⟩, ?_⟩
                  simp only [Act.put, List.getElem_toArray, List.getElem_cons_zero, List.getElem_cons_succ, List.setIfInBounds_toArray, List.set_cons_succ, List.set_cons_zero]
                  have hb_0 := below_drewW wr
                  generalize wr.drew = y_0 at *
                  have hO := own_next hO9 hb_0
                  refine ⟨_, rfl, ?_⟩
                  go_wp2_with fail
                  refine (hno8 y_0 _ _ (Nat.le_trans hsz hb_0.size) hO).mono ?_
                  rintro e y_1 ⟨A1, c1, rfl, hbx⟩
                  replace hO := own_next hO hbx
                  go_wp2_with fail
                  have hb_1 := Qt.more hb_0 hb_0.size hbx
                  clear hbx
                  refine ⟨rfl, hb_1, ?_⟩
                  refine ⟨_, _, .int .i64 (h : Int), rfl, rfl, ⟨rfl, fun W hW => by first | exact ⟨rfl, rfl⟩ | (simp only [Act.eval, execOp]; go_simp; try exact ⟨rfl, rfl⟩)⟩, ?_⟩
                  simp only [Act.put, List.getElem_toArray, List.getElem_cons_zero, List.getElem_cons_succ, List.setIfInBounds_toArray, List.set_cons_succ, List.set_cons_zero]
                  refine ⟨_, _, .bool false, rfl, rfl, ⟨rfl, fun W hW => by first | exact ⟨rfl, rfl⟩ | (simp only [Act.eval, execOp]; go_simp; try exact ⟨rfl, rfl⟩)⟩, ?_⟩
                  simp only [Act.put, List.getElem_toArray, List.getElem_cons_zero, List.getElem_cons_succ, List.setIfInBounds_toArray, List.set_cons_succ, List.set_cons_zero]
                  refine ⟨_, _, .bool false, rfl, rfl, ⟨rfl, fun W hW => by first | exact ⟨rfl, rfl⟩ | (simp only [Act.eval, execOp]; go_simp; try exact ⟨rfl, rfl⟩)⟩, ?_⟩
                  simp only [Act.put, List.getElem_toArray, List.getElem_cons_zero, List.getElem_cons_succ, List.setIfInBounds_toArray, List.set_cons_succ, List.set_cons_zero]
                  refine ⟨_, _, .slice A9 m2.length c9, rfl, rfl, ⟨rfl, fun W hW => by first | exact ⟨rfl, rfl⟩ | (simp only [Act.eval, execOp]; go_simp; try exact ⟨rfl, rfl⟩)⟩, ?_⟩
                  simp only [Act.put, List.getElem_toArray, List.getElem_cons_zero, List.getElem_cons_succ, List.setIfInBounds_toArray, List.set_cons_succ, List.set_cons_zero]
                  refine ⟨_, _, .pointer (some ⟨tb, 0, none⟩), rfl, rfl, ⟨rfl, fun W hW => by first | exact ⟨rfl, rfl⟩ | (simp only [Act.eval, execOp]; go_simp; try exact ⟨rfl, rfl⟩)⟩, ?_⟩
                  simp only [Act.put, List.getElem_toArray, List.getElem_cons_zero, List.getElem_cons_succ, List.setIfInBounds_toArray, List.set_cons_succ, List.set_cons_zero]
                  refine ⟨_, _, .int .i64 (S : Int), rfl, rfl, ⟨rfl, fun W hW => by first | exact ⟨rfl, rfl⟩ | (have l0 := L0 W hW; have l1 := L1 W hW; simp only [Act.eval, execOp]; go_simp; try exact ⟨rfl, rfl⟩)⟩, ?_⟩
                  simp only [Act.put, List.getElem_toArray, List.getElem_cons_zero, List.getElem_cons_succ, List.setIfInBounds_toArray, List.set_cons_succ, List.set_cons_zero]
                  refine ⟨_, _, .pointer (some ⟨tb, 1, none⟩), rfl, rfl, ⟨rfl, fun W hW => by first | exact ⟨rfl, rfl⟩ | (simp only [Act.eval, execOp]; go_simp; try exact ⟨rfl, rfl⟩)⟩, ?_⟩
                  simp only [Act.put, List.getElem_toArray, List.getElem_cons_zero, List.getElem_cons_succ, List.setIfInBounds_toArray, List.set_cons_succ, List.set_cons_zero]
                  refine ⟨_, _, .int .i64 (N : Int), rfl, rfl, ⟨rfl, fun W hW => by first | exact ⟨rfl, rfl⟩ | (have l0 := L0 W hW; have l1 := L1 W hW; simp only [Act.eval, execOp]; go_simp; try exact ⟨rfl, rfl⟩)⟩, ?_⟩
                  simp only [Act.put, List.getElem_toArray, List.getElem_cons_zero, List.getElem_cons_succ, List.setIfInBounds_toArray, List.set_cons_succ, List.set_cons_zero]
                  refine ⟨_, _, .int .i64 (4 * (N : Int)), rfl, rfl, ⟨rfl, fun W hW => by first | exact ⟨rfl, rfl⟩ | (simp only [Act.eval, execOp]; go_simp; try exact ⟨rfl, rfl⟩)⟩, ?_⟩
                  simp only [Act.put, List.getElem_toArray, List.getElem_cons_zero, List.getElem_cons_succ, List.setIfInBounds_toArray, List.set_cons_succ, List.set_cons_zero]
                  refine ⟨_, _, .int .i64 ((S : Int) + 4 * (N : Int)), rfl, rfl, ⟨rfl, fun W hW => by first | exact ⟨rfl, rfl⟩ | (simp only [Act.eval, execOp]; go_simp; try exact ⟨rfl, rfl⟩)⟩, ?_⟩
                  simp only [Act.put, List.getElem_toArray, List.getElem_cons_zero, List.getElem_cons_succ, List.setIfInBounds_toArray, List.set_cons_succ, List.set_cons_zero]
                  refine ⟨_, _, .pointer (some ⟨tb, 1, none⟩), rfl, rfl, ⟨rfl, fun W hW => by first | exact ⟨rfl, rfl⟩ | (simp only [Act.eval, execOp]; go_simp; try exact ⟨rfl, rfl⟩)⟩, ?_⟩
                  simp only [Act.put, List.getElem_toArray, List.getElem_cons_zero, List.getElem_cons_succ, List.setIfInBounds_toArray, List.set_cons_succ, List.set_cons_zero]
                  refine ⟨_, _, .int .i64 (N : Int), rfl, rfl, ⟨rfl, fun W hW => by first | exact ⟨rfl, rfl⟩ | (have l0 := L0 W hW; have l1 := L1 W hW; simp only [Act.eval, execOp]; go_simp; try exact ⟨rfl, rfl⟩)⟩, ?_⟩
                  simp only [Act.put, List.getElem_toArray, List.getElem_cons_zero, List.getElem_cons_succ, List.setIfInBounds_toArray, List.set_cons_succ, List.set_cons_zero]
                  refine ⟨_, _, .slice Ah h ch, rfl, rfl, ⟨rfl, fun W hW => by first | exact ⟨rfl, rfl⟩ | (simp only [Act.eval, execOp]; go_simp; try exact ⟨rfl, rfl⟩)⟩, ?_⟩
                  simp only [Act.put, List.getElem_toArray, List.getElem_cons_zero, List.getElem_cons_succ, List.setIfInBounds_toArray, List.set_cons_succ, List.set_cons_zero]
                  refine ⟨_, _, .int .i64 (h : Int), rfl, rfl, ⟨rfl, fun W hW => by first | exact ⟨rfl, rfl⟩ | (simp only [Act.eval, execOp]; go_simp; try exact ⟨rfl, rfl⟩)⟩, ?_⟩
                  simp only [Act.put, List.getElem_toArray, List.getElem_cons_zero, List.getElem_cons_succ, List.setIfInBounds_toArray, List.set_cons_succ, List.set_cons_zero]
                  refine ⟨_, _, .int .i64 (k9 : Int), rfl, rfl, ⟨rfl, fun W hW => by first | exact ⟨rfl, rfl⟩ | (simp only [Act.eval, execOp]; go_simp; try exact ⟨rfl, rfl⟩)⟩, ?_⟩
                  simp only [Act.put, List.getElem_toArray, List.getElem_cons_zero, List.getElem_cons_succ, List.setIfInBounds_toArray, List.set_cons_succ, List.set_cons_zero]
                  refine ⟨_, rfl, ?_⟩
                  go_wp2_with fail
                  refine (hfr y_1 _ _ (Nat.le_trans hsz hb_1.size) hO).mono ?_
                  rintro e y_2 ⟨A2, c2, rfl, hbx⟩
                  go_wp2_with fail
                  have hb_2 := Qt.more hb_1 hb_1.size hbx
                  clear hbx
                  refine ⟨rfl, hb_2, ?_⟩
                  refine ⟨_, _, .int .i64 (k9 : Int), rfl, rfl, ⟨rfl, fun W hW => by first | exact ⟨rfl, rfl⟩ | (simp only [Act.eval, execOp]; go_simp; try exact ⟨rfl, rfl⟩)⟩, ?_⟩
                  simp only [Act.put, List.getElem_toArray, List.getElem_cons_zero, List.getElem_cons_succ, List.setIfInBounds_toArray, List.set_cons_succ, List.set_cons_zero]
                  refine ⟨_, _, .bool false, rfl, rfl, ⟨rfl, fun W hW => by first | exact ⟨rfl, rfl⟩ | (simp only [Act.eval, execOp]; go_simp; try exact ⟨rfl, rfl⟩)⟩, ?_⟩
                  simp only [Act.put, List.getElem_toArray, List.getElem_cons_zero, List.getElem_cons_succ, List.setIfInBounds_toArray, List.set_cons_succ, List.set_cons_zero]
                  refine ⟨_, _, .bool false, rfl, rfl, ⟨rfl, fun W hW => by first | exact ⟨rfl, rfl⟩ | (simp only [Act.eval, execOp]; go_simp; try exact ⟨rfl, rfl⟩)⟩, ?_⟩
                  simp only [Act.put, List.getElem_toArray, List.getElem_cons_zero, List.getElem_cons_succ, List.setIfInBounds_toArray, List.set_cons_succ, List.set_cons_zero]
                  exact ⟨A1, c1, A2, c2, (by simp only [Act.put, List.setIfInBounds_toArray, List.set_cons_succ, List.set_cons_zero]), hb_2⟩
                · rintro a' v9 ⟨A1, c1, A2, c2, rfl, hb9⟩
                  simp only [Act.put, List.setIfInBounds_toArray, List.set_cons_succ, List.set_cons_zero]
                  clear L0 L1 W7 W8 W9 hno8 hfr
                  go_wp2_with fail
                  go_roundw
                  case measure => simp [intOf]; omega
                  case rel => exact ⟨A9, c9, Ah, ch, Aa, ca, ii + 1, h, m2, L, rfl, rfl, rfl, by go_num, (show Hid _ from HI9.out.next hb9)⟩
            · have hwv := hN1 hno
              rw [hvo] at c11
              rw [hL2] at hJ2
              subst hwv
              have hn0 : ¬ (n : Int) < 0 := by omega
              have HVO := Lib.hid hvo
              have hkc0 := pKids_any (S := S) (N := N) (n := n) (A := A9) (c := c9) wr HTS.out (by rw [hJ2.len]) hn (show w.heap.size ≤ wr.heap.size from hI5.bel.size) hM5
              rw [hkd] at hkc0
              have hkc : Calls Try.prog 32 #[.agg #[.int .i64 (S : Int), .int .i64 (N : Int)], .slice A9 m2.length c9, .int .i64 n] wr fun e w' => e = .returned (.tuple #[.agg #[.int .i64 k1, .int .i64 k2, .int .i64 k3, .int .i64 k4], .bool true]) ∧ Below wr.heap.size wr w' := hkc0
              have heqk : ∀ W, (Op.equalIn 10000 53 (.agg #[.int .i64 k1, .int .i64 k2, .int .i64 k3, .int .i64 k4]) (.agg #[.int .i64 k1, .int .i64 k2, .int .i64 k3, .int .i64 k4])).run Try.prog W = .ok true W := fun W => by
                rw [show (10000 : Nat) = 9998 + 1 + 1 from rfl, eqK_at]; simp
              have hB5 := hI5.bel
              have hQ := Lib.hid (And.intro hO5 (And.intro hI5 (And.intro hX5 (And.intro hK5 (And.intro hJ2 hLl)))))
              have hz4 : (h : Int) < (S : Int) := by omega
              have hz5 : (h : Int) < (N : Int) := by omega
              clear hO5 hI5 hX5 hK5 hM5 hN1 hN2 hkc0 hkd hway hbj hK4 hI4 hO4 hbx HJ hI0 hJ2 hvo hB5 hj
              go_wp2_with fail
              refine hkc.mono ?_
              rintro e v5 ⟨rfl, hb5⟩
              clear hkc c11 s0 s1
              obtain ⟨hO5, hI5, hX5, hK5, hJ2, hLl2⟩ := hQ.out
              have hA := (Below.refl v5.heap.size v5).alloc (Nat.le_refl _) (.cells #[.int .i64 k1, .int .i64 k2, .int .i64 k3, .int .i64 k4] 53)
              have h56 := hb5.trans (hA.mono hb5.size)
              have hI6 := hI5.next h56
              have hX6 := (h56.block _ (lt_heap6' hX5)).trans hX5
              have hK6 := (h56.block _ (lt_heap6' hK5)).trans hK5
              have hO6 := own_next hO5 h56
              obtain ⟨Ah2, ch2, w7, hrun, hX7, Aa2, ca2, w8, hrun2, hO8, hK8, ha8, hT8, hB8⟩ := putA (k1, k2, k3, k4) n hO6 hws hla hI6.oh hI6.oa hI6.tab hX6 hI6.bel (Nat.le_refl _) (show (hadI L).length = h by unfold hadI; rw [List.length_map]; exact hLl) (show (atI L).length = h by unfold atI; rw [List.length_map]; exact hLl) (by omega)
              obtain ⟨h2, hh2⟩ : ∃ h2, h2 = h + 1 := ⟨_, rfl⟩
              rw [← hh2] at hrun hrun2 hK8 ha8
              have kc := fun (o : Obj) => ((hb5.trans ((Below.refl v5.heap.size v5).alloc (Nat.le_refl _) o |>.mono hb5.size)).block _ (lt_heap6' hK5)).trans hK5
              have tc := fun (o : Obj) => ((hb5.trans ((Below.refl v5.heap.size v5).alloc (Nat.le_refl _) o |>.mono hb5.size)).block _ (lt_heap6' hI5.tab)).trans hI5.tab
              have k_0 : ∀ o, (v5.alloc o).cell? ⟨kb, 0, none⟩ = some (.int .i64 k1) := fun o => by rw [Lib.cell_of_heap (kc o)]; rfl
              have k_1 : ∀ o, (v5.alloc o).cell? ⟨kb, 1, none⟩ = some (.int .i64 k2) := fun o => by rw [Lib.cell_of_heap (kc o)]; rfl
              have k_2 : ∀ o, (v5.alloc o).cell? ⟨kb, 2, none⟩ = some (.int .i64 k3) := fun o => by rw [Lib.cell_of_heap (kc o)]; rfl
              have k_3 : ∀ o, (v5.alloc o).cell? ⟨kb, 3, none⟩ = some (.int .i64 k4) := fun o => by rw [Lib.cell_of_heap (kc o)]; rfl
              have t_0 : ∀ o, (v5.alloc o).cell? ⟨tb, 0, none⟩ = some (.int .i64 (S : Int)) := fun o => by rw [Lib.cell_of_heap (tc o)]; rfl
              have t_1 : ∀ o, (v5.alloc o).cell? ⟨tb, 1, none⟩ = some (.int .i64 (N : Int)) := fun o => by rw [Lib.cell_of_heap (tc o)]; rfl
              have c11 : w7.cell? ⟨bb, 11, none⟩ = some (.int .i64 (n : Int)) := by rw [Lib.cell_of_heap hX7, ← HVO.out]; rfl
              have hI9 : InvA w w8 tb S N (ii + 1) h2 m2 (L ++ [((k1, k2, k3, k4), n)]) A9 c9 Ah2 ch2 Aa2 ca2 := ⟨⟨cc2, F2, hJ2, by omega⟩, by rw [List.length_append, hLl, hh2]; rfl, by omega, by omega, hO8, (show hadI (L ++ [((k1, k2, k3, k4), n)]) = hadI L ++ [(k1, k2, k3, k4)] by unfold hadI; simp) ▸ hK8, (show atI (L ++ [((k1, k2, k3, k4), n)]) = atI L ++ [(n : Int)] by unfold atI; simp) ▸ ha8, hT8, hB8⟩
              have h2z : (h2 : Int) ≤ 21 := by omega
              have hno8 := hI9.nodesR HTS.out
              obtain ⟨k9, hk9, hfr⟩ := hI9.freeR HTS.out
              have hO9 := hI9.om
              have hsz : w.heap.size ≤ w8.heap.size := hI9.bel.size
              have HI9 := Lib.hid hI9
              have W7 : IntKind.i64.wrap (4 * (N : Int)) = 4 * (N : Int) := by rw [IntKind.wrap_i64]; first | omega | (unfold wrap64; omega)
              have W8 : IntKind.i64.wrap ((S : Int) + 4 * (N : Int)) = (S : Int) + 4 * (N : Int) := by rw [IntKind.wrap_i64]; first | omega | (unfold wrap64; omega)
              have W9 : IntKind.i64.wrap ((N : Int) - (h2 : Int)) = (k9 : Int) := by rw [IntKind.wrap_i64, hk9]; first | omega | (unfold wrap64; omega)
              have L0 := fun (W : World) (hW : Below w8.heap.size w8 W) => (hW.cell (p := ⟨tb, 0, none⟩) (lt_heap6' HI9.out.tab)).trans (show w8.cell? ⟨tb, 0, none⟩ = some (.int .i64 (S : Int)) by rw [Lib.cell_of_heap HI9.out.tab]; rfl)
              have L1 := fun (W : World) (hW : Below w8.heap.size w8 W) => (hW.cell (p := ⟨tb, 1, none⟩) (lt_heap6' HI9.out.tab)).trans (show w8.cell? ⟨tb, 1, none⟩ = some (.int .i64 (N : Int)) by rw [Lib.cell_of_heap HI9.out.tab]; rfl)
              clear hI9 hk9
              rw [show (v5.alloc (.cells #[.int .i64 k1, .int .i64 k2, .int .i64 k3, .int .i64 k4] 53)).heap.size = v5.heap.size + 1 from by simp] at hrun
              simp only at hrun
              have HR1 := Lib.hid hrun
              have HR2 := Lib.hid hrun2
              have hmes : Hid (ii < 20) := hi2
              clear hrun hrun2 kc tc hb5 hA h56 hI6 hX6 hK6 hO6 hO5 hI5 hX5 hK5 hJ2 hLl2 hX7 hO8 hK8 ha8 hT8 hB8 hh2 hc2 hcc hle hws hll hla hLl hno hl1 hl2 hL2 hn
              by_cases hsn0 : N < S
              · have hsn : (N : Int) < (S : Int) := by omega
                clear hsn0
                go_wp2_with (at_builtin; first | refine Lib.wpList_append_run _ rfl _ _ _ _ rfl _ _ rfl rfl _ _ HR1.out ?_ | refine Lib.wpList_append_run _ rfl _ _ _ _ rfl _ _ rfl rfl _ _ HR2.out ?_)
                clear k_0 k_1 k_2 k_3 t_0 t_1 c11 hz4 hz5 heqk HR1 HR2 hsn
                refine region_calm_to (fun W => Below w8.heap.size w8 W) (RgN m2 S N tb h2 k9 A9 c9 Ah2 ch2 w8)
                  (.calm 0 (.calm 1 (.calm 4 (.calm 5 (.only 2 (.calm 3 (.calm 6 (.calm 7 (.calm 8 (.calm 9 (.calm 10 (.calm 11 (.calm 12 (.calm 13 (.calm 14 (.calm 17 (.calm 18 (.calm 19 (.calm 20 (.calm 21 (.only 15 (.calm 16 (.calm 22 (.calm 23 .done)))))))))))))))))))))))) (by kernel_rfl) (by kernel_rfl) (by kernel_rfl) (by rfl) (below_drewW _) ?_ ?_
                · skip
                  refine ⟨_, _, .agg #[.int .i64 (S : Int), .int .i64 (N : Int)], rfl, rfl, ⟨rfl, fun W hW => by first | exact ⟨rfl, rfl⟩ | (have l0 := L0 W hW; have l1 := L1 W hW; simp only [Act.eval, execOp]; go_simp; try exact ⟨rfl, rfl⟩)⟩, ?_⟩
                  simp only [Act.put, List.getElem_toArray, List.getElem_cons_zero, List.getElem_cons_succ, List.setIfInBounds_toArray, List.set_cons_succ, List.set_cons_zero]
                  refine ⟨_, _, .slice A9 m2.length c9, rfl, rfl, ⟨rfl, fun W hW => by first | exact ⟨rfl, rfl⟩ | (simp only [Act.eval, execOp]; go_simp; try exact ⟨rfl, rfl⟩)⟩, ?_⟩
                  simp only [Act.put, List.getElem_toArray, List.getElem_cons_zero, List.getElem_cons_succ, List.setIfInBounds_toArray, List.set_cons_succ, List.set_cons_zero]
                  refine ⟨_, _, .slice Ah2 h2 ch2, rfl, rfl, ⟨rfl, fun W hW => by first | exact ⟨rfl, rfl⟩ | (simp only [Act.eval, execOp]; go_simp; try exact ⟨rfl, rfl⟩)⟩, ?_⟩
                  simp only [Act.put, List.getElem_toArray, List.getElem_cons_zero, List.getElem_cons_succ, List.setIfInBounds_toArray, List.set_cons_succ, List.set_cons_zero]
                  refine ⟨_, _, .int .i64 (h2 : Int), rfl, rfl, ⟨rfl, fun W hW => by first | exact ⟨rfl, rfl⟩ | (simp only [Act.eval, execOp]; go_simp; try exact ⟨rfl, rfl⟩)⟩, ?_⟩
                  simp only [Act.put, List.getElem_toArray, List.getElem_cons_zero, List.getElem_cons_succ, List.setIfInBounds_toArray, List.set_cons_succ, List.set_cons_zero]
                  have hb_0 := below_drewW w8
                  generalize w8.drew = y_0 at *
                  have hO := own_next hO9 hb_0
                  refine ⟨_, rfl, ?_⟩
                  go_wp2_with fail
                  refine (hno8 y_0 _ _ (Nat.le_trans hsz hb_0.size) hO).mono ?_
                  rintro e y_1 ⟨A1, c1, rfl, hbx⟩
                  replace hO := own_next hO hbx
                  go_wp2_with fail
                  have hb_1 := Qt.more hb_0 hb_0.size hbx
                  clear hbx
                  refine ⟨rfl, hb_1, ?_⟩
                  refine ⟨_, _, .int .i64 (h2 : Int), rfl, rfl, ⟨rfl, fun W hW => by first | exact ⟨rfl, rfl⟩ | (simp only [Act.eval, execOp]; go_simp; try exact ⟨rfl, rfl⟩)⟩, ?_⟩
                  simp only [Act.put, List.getElem_toArray, List.getElem_cons_zero, List.getElem_cons_succ, List.setIfInBounds_toArray, List.set_cons_succ, List.set_cons_zero]
                  refine ⟨_, _, .bool false, rfl, rfl, ⟨rfl, fun W hW => by first | exact ⟨rfl, rfl⟩ | (simp only [Act.eval, execOp]; go_simp; try exact ⟨rfl, rfl⟩)⟩, ?_⟩
                  simp only [Act.put, List.getElem_toArray, List.getElem_cons_zero, List.getElem_cons_succ, List.setIfInBounds_toArray, List.set_cons_succ, List.set_cons_zero]
                  refine ⟨_, _, .bool false, rfl, rfl, ⟨rfl, fun W hW => by first | exact ⟨rfl, rfl⟩ | (simp only [Act.eval, execOp]; go_simp; try exact ⟨rfl, rfl⟩)⟩, ?_⟩
                  simp only [Act.put, List.getElem_toArray, List.getElem_cons_zero, List.getElem_cons_succ, List.setIfInBounds_toArray, List.set_cons_succ, List.set_cons_zero]
                  refine ⟨_, _, .slice A9 m2.length c9, rfl, rfl, ⟨rfl, fun W hW => by first | exact ⟨rfl, rfl⟩ | (simp only [Act.eval, execOp]; go_simp; try exact ⟨rfl, rfl⟩)⟩, ?_⟩
                  simp only [Act.put, List.getElem_toArray, List.getElem_cons_zero, List.getElem_cons_succ, List.setIfInBounds_toArray, List.set_cons_succ, List.set_cons_zero]
                  refine ⟨_, _, .pointer (some ⟨tb, 0, none⟩), rfl, rfl, ⟨rfl, fun W hW => by first | exact ⟨rfl, rfl⟩ | (simp only [Act.eval, execOp]; go_simp; try exact ⟨rfl, rfl⟩)⟩, ?_⟩
                  simp only [Act.put, List.getElem_toArray, List.getElem_cons_zero, List.getElem_cons_succ, List.setIfInBounds_toArray, List.set_cons_succ, List.set_cons_zero]
                  refine ⟨_, _, .int .i64 (S : Int), rfl, rfl, ⟨rfl, fun W hW => by first | exact ⟨rfl, rfl⟩ | (have l0 := L0 W hW; have l1 := L1 W hW; simp only [Act.eval, execOp]; go_simp; try exact ⟨rfl, rfl⟩)⟩, ?_⟩
                  simp only [Act.put, List.getElem_toArray, List.getElem_cons_zero, List.getElem_cons_succ, List.setIfInBounds_toArray, List.set_cons_succ, List.set_cons_zero]
                  refine ⟨_, _, .pointer (some ⟨tb, 1, none⟩), rfl, rfl, ⟨rfl, fun W hW => by first | exact ⟨rfl, rfl⟩ | (simp only [Act.eval, execOp]; go_simp; try exact ⟨rfl, rfl⟩)⟩, ?_⟩
                  simp only [Act.put, List.getElem_toArray, List.getElem_cons_zero, List.getElem_cons_succ, List.setIfInBounds_toArray, List.set_cons_succ, List.set_cons_zero]
                  refine ⟨_, _, .int .i64 (N : Int), rfl, rfl, ⟨rfl, fun W hW => by first | exact ⟨rfl, rfl⟩ | (have l0 := L0 W hW; have l1 := L1 W hW; simp only [Act.eval, execOp]; go_simp; try exact ⟨rfl, rfl⟩)⟩, ?_⟩
                  simp only [Act.put, List.getElem_toArray, List.getElem_cons_zero, List.getElem_cons_succ, List.setIfInBounds_toArray, List.set_cons_succ, List.set_cons_zero]
                  refine ⟨_, _, .int .i64 (4 * (N : Int)), rfl, rfl, ⟨rfl, fun W hW => by first | exact ⟨rfl, rfl⟩ | (simp only [Act.eval, execOp]; go_simp; try exact ⟨rfl, rfl⟩)⟩, ?_⟩
                  simp only [Act.put, List.getElem_toArray, List.getElem_cons_zero, List.getElem_cons_succ, List.setIfInBounds_toArray, List.set_cons_succ, List.set_cons_zero]
                  refine ⟨_, _, .int .i64 ((S : Int) + 4 * (N : Int)), rfl, rfl, ⟨rfl, fun W hW => by first | exact ⟨rfl, rfl⟩ | (simp only [Act.eval, execOp]; go_simp; try exact ⟨rfl, rfl⟩)⟩, ?_⟩
                  simp only [Act.put, List.getElem_toArray, List.getElem_cons_zero, List.getElem_cons_succ, List.setIfInBounds_toArray, List.set_cons_succ, List.set_cons_zero]
                  refine ⟨_, _, .pointer (some ⟨tb, 1, none⟩), rfl, rfl, ⟨rfl, fun W hW => by first | exact ⟨rfl, rfl⟩ | (simp only [Act.eval, execOp]; go_simp; try exact ⟨rfl, rfl⟩)⟩, ?_⟩
                  simp only [Act.put, List.getElem_toArray, List.getElem_cons_zero, List.getElem_cons_succ, List.setIfInBounds_toArray, List.set_cons_succ, List.set_cons_zero]
                  refine ⟨_, _, .int .i64 (N : Int), rfl, rfl, ⟨rfl, fun W hW => by first | exact ⟨rfl, rfl⟩ | (have l0 := L0 W hW; have l1 := L1 W hW; simp only [Act.eval, execOp]; go_simp; try exact ⟨rfl, rfl⟩)⟩, ?_⟩
                  simp only [Act.put, List.getElem_toArray, List.getElem_cons_zero, List.getElem_cons_succ, List.setIfInBounds_toArray, List.set_cons_succ, List.set_cons_zero]
                  refine ⟨_, _, .slice Ah2 h2 ch2, rfl, rfl, ⟨rfl, fun W hW => by first | exact ⟨rfl, rfl⟩ | (simp only [Act.eval, execOp]; go_simp; try exact ⟨rfl, rfl⟩)⟩, ?_⟩
                  simp only [Act.put, List.getElem_toArray, List.getElem_cons_zero, List.getElem_cons_succ, List.setIfInBounds_toArray, List.set_cons_succ, List.set_cons_zero]
                  refine ⟨_, _, .int .i64 (h2 : Int), rfl, rfl, ⟨rfl, fun W hW => by first | exact ⟨rfl, rfl⟩ | (simp only [Act.eval, execOp]; go_simp; try exact ⟨rfl, rfl⟩)⟩, ?_⟩
                  simp only [Act.put, List.getElem_toArray, List.getElem_cons_zero, List.getElem_cons_succ, List.setIfInBounds_toArray, List.set_cons_succ, List.set_cons_zero]
                  refine ⟨_, _, .int .i64 (k9 : Int), rfl, rfl, ⟨rfl, fun W hW => by first | exact ⟨rfl, rfl⟩ | (simp only [Act.eval, execOp]; go_simp; try exact ⟨rfl, rfl⟩)⟩, ?_⟩
                  simp only [Act.put, List.getElem_toArray, List.getElem_cons_zero, List.getElem_cons_succ, List.setIfInBounds_toArray, List.set_cons_succ, List.set_cons_zero]
                  refine ⟨_, rfl, ?_⟩
                  go_wp2_with fail
                  refine (hfr y_1 _ _ (Nat.le_trans hsz hb_1.size) hO).mono ?_
                  rintro e y_2 ⟨A2, c2, rfl, hbx⟩
                  go_wp2_with fail
                  have hb_2 := Qt.more hb_1 hb_1.size hbx
                  clear hbx
                  refine ⟨rfl, hb_2, ?_⟩
                  refine ⟨_, _, .int .i64 (k9 : Int), rfl, rfl, ⟨rfl, fun W hW => by first | exact ⟨rfl, rfl⟩ | (simp only [Act.eval, execOp]; go_simp; try exact ⟨rfl, rfl⟩)⟩, ?_⟩
                  simp only [Act.put, List.getElem_toArray, List.getElem_cons_zero, List.getElem_cons_succ, List.setIfInBounds_toArray, List.set_cons_succ, List.set_cons_zero]
                  refine ⟨_, _, .bool false, rfl, rfl, ⟨rfl, fun W hW => by first | exact ⟨rfl, rfl⟩ | (simp only [Act.eval, execOp]; go_simp; try exact ⟨rfl, rfl⟩)⟩, ?_⟩
                  simp only [Act.put, List.getElem_toArray, List.getElem_cons_zero, List.getElem_cons_succ, List.setIfInBounds_toArray, List.set_cons_succ, List.set_cons_zero]
                  refine ⟨_, _, .bool false, rfl, rfl, ⟨rfl, fun W hW => by first | exact ⟨rfl, rfl⟩ | (simp only [Act.eval, execOp]; go_simp; try exact ⟨rfl, rfl⟩)⟩, ?_⟩
                  simp only [Act.put, List.getElem_toArray, List.getElem_cons_zero, List.getElem_cons_succ, List.setIfInBounds_toArray, List.set_cons_succ, List.set_cons_zero]
                  exact ⟨A1, c1, A2, c2, (by simp only [Act.put, List.setIfInBounds_toArray, List.set_cons_succ, List.set_cons_zero]), hb_2⟩
                · rintro a' v9 ⟨A1, c1, A2, c2, rfl, hb9⟩
                  simp only [Act.put, List.setIfInBounds_toArray, List.set_cons_succ, List.set_cons_zero]
                  clear L0 L1 W7 W8 W9 hno8 hfr
                  go_wp2_with fail
                  go_roundw
                  case measure => simp [intOf]; omega
                  case rel => exact ⟨A9, c9, Ah2, ch2, Aa2, ca2, ii + 1, h2, m2, (L ++ [((k1, k2, k3, k4), n)]), rfl, rfl, rfl, by go_num, (show Hid _ from HI9.out.next hb9)⟩
              · have hsn : ¬ (N : Int) < (S : Int) := by omega
                clear hsn0
                go_wp2_with (at_builtin; first | refine Lib.wpList_append_run _ rfl _ _ _ _ rfl _ _ rfl rfl _ _ HR1.out ?_ | refine Lib.wpList_append_run _ rfl _ _ _ _ rfl _ _ rfl rfl _ _ HR2.out ?_)
                clear k_0 k_1 k_2 k_3 t_0 t_1 c11 hz4 hz5 heqk HR1 HR2 hsn
                refine region_calm_to (fun W => Below w8.heap.size w8 W) (RgN m2 S N tb h2 k9 A9 c9 Ah2 ch2 w8)
                  (.calm 0 (.calm 1 (.calm 4 (.calm 5 (.only 2 (.calm 3 (.calm 6 (.calm 7 (.calm 8 (.calm 9 (.calm 10 (.calm 11 (.calm 12 (.calm 13 (.calm 14 (.calm 17 (.calm 18 (.calm 19 (.calm 20 (.calm 21 (.only 15 (.calm 16 (.calm 22 (.calm 23 .done)))))))))))))))))))))))) (by kernel_rfl) (by kernel_rfl) (by kernel_rfl) (by rfl) (below_drewW _) ?_ ?_
                · skip
                  refine ⟨_, _, .agg #[.int .i64 (S : Int), .int .i64 (N : Int)], rfl, rfl, ⟨rfl, fun W hW => by first | exact ⟨rfl, rfl⟩ | (have l0 := L0 W hW; have l1 := L1 W hW; simp only [Act.eval, execOp]; go_simp; try exact ⟨rfl, rfl⟩)⟩, ?_⟩
                  simp only [Act.put, List.getElem_toArray, List.getElem_cons_zero, List.getElem_cons_succ, List.setIfInBounds_toArray, List.set_cons_succ, List.set_cons_zero]
                  refine ⟨_, _, .slice A9 m2.length c9, rfl, rfl, ⟨rfl, fun W hW => by first | exact ⟨rfl, rfl⟩ | (simp only [Act.eval, execOp]; go_simp; try exact ⟨rfl, rfl⟩)⟩, ?_⟩
                  simp only [Act.put, List.getElem_toArray, List.getElem_cons_zero, List.getElem_cons_succ, List.setIfInBounds_toArray, List.set_cons_succ, List.set_cons_zero]
                  refine ⟨_, _, .slice Ah2 h2 ch2, rfl, rfl, ⟨rfl, fun W hW => by first | exact ⟨rfl, rfl⟩ | (simp only [Act.eval, execOp]; go_simp; try exact ⟨rfl, rfl⟩)⟩, ?_⟩
                  simp only [Act.put, List.getElem_toArray, List.getElem_cons_zero, List.getElem_cons_succ, List.setIfInBounds_toArray, List.set_cons_succ, List.set_cons_zero]
                  refine ⟨_, _, .int .i64 (h2 : Int), rfl, rfl, ⟨rfl, fun W hW => by first | exact ⟨rfl, rfl⟩ | (simp only [Act.eval, execOp]; go_simp; try exact ⟨rfl, rfl⟩)⟩, ?_⟩
                  simp only [Act.put, List.getElem_toArray, List.getElem_cons_zero, List.getElem_cons_succ, List.setIfInBounds_toArray, List.set_cons_succ, List.set_cons_zero]
                  have hb_0 := below_drewW w8
                  generalize w8.drew = y_0 at *
                  have hO := own_next hO9 hb_0
                  refine ⟨_, rfl, ?_⟩
                  go_wp2_with fail
                  refine (hno8 y_0 _ _ (Nat.le_trans hsz hb_0.size) hO).mono ?_
                  rintro e y_1 ⟨A1, c1, rfl, hbx⟩
                  replace hO := own_next hO hbx
                  go_wp2_with fail
                  have hb_1 := Qt.more hb_0 hb_0.size hbx
                  clear hbx
                  refine ⟨rfl, hb_1, ?_⟩
                  refine ⟨_, _, .int .i64 (h2 : Int), rfl, rfl, ⟨rfl, fun W hW => by first | exact ⟨rfl, rfl⟩ | (simp only [Act.eval, execOp]; go_simp; try exact ⟨rfl, rfl⟩)⟩, ?_⟩
                  simp only [Act.put, List.getElem_toArray, List.getElem_cons_zero, List.getElem_cons_succ, List.setIfInBounds_toArray, List.set_cons_succ, List.set_cons_zero]
                  refine ⟨_, _, .bool false, rfl, rfl, ⟨rfl, fun W hW => by first | exact ⟨rfl, rfl⟩ | (simp only [Act.eval, execOp]; go_simp; try exact ⟨rfl, rfl⟩)⟩, ?_⟩
                  simp only [Act.put, List.getElem_toArray, List.getElem_cons_zero, List.getElem_cons_succ, List.setIfInBounds_toArray, List.set_cons_succ, List.set_cons_zero]
                  refine ⟨_, _, .bool false, rfl, rfl, ⟨rfl, fun W hW => by first | exact ⟨rfl, rfl⟩ | (simp only [Act.eval, execOp]; go_simp; try exact ⟨rfl, rfl⟩)⟩, ?_⟩
                  simp only [Act.put, List.getElem_toArray, List.getElem_cons_zero, List.getElem_cons_succ, List.setIfInBounds_toArray, List.set_cons_succ, List.set_cons_zero]
                  refine ⟨_, _, .slice A9 m2.length c9, rfl, rfl, ⟨rfl, fun W hW => by first | exact ⟨rfl, rfl⟩ | (simp only [Act.eval, execOp]; go_simp; try exact ⟨rfl, rfl⟩)⟩, ?_⟩
                  simp only [Act.put, List.getElem_toArray, List.getElem_cons_zero, List.getElem_cons_succ, List.setIfInBounds_toArray, List.set_cons_succ, List.set_cons_zero]
                  refine ⟨_, _, .pointer (some ⟨tb, 0, none⟩), rfl, rfl, ⟨rfl, fun W hW => by first | exact ⟨rfl, rfl⟩ | (simp only [Act.eval, execOp]; go_simp; try exact ⟨rfl, rfl⟩)⟩, ?_⟩
                  simp only [Act.put, List.getElem_toArray, List.getElem_cons_zero, List.getElem_cons_succ, List.setIfInBounds_toArray, List.set_cons_succ, List.set_cons_zero]
                  refine ⟨_, _, .int .i64 (S : Int), rfl, rfl, ⟨rfl, fun W hW => by first | exact ⟨rfl, rfl⟩ | (have l0 := L0 W hW; have l1 := L1 W hW; simp only [Act.eval, execOp]; go_simp; try exact ⟨rfl, rfl⟩)⟩, ?_⟩
                  simp only [Act.put, List.getElem_toArray, List.getElem_cons_zero, List.getElem_cons_succ, List.setIfInBounds_toArray, List.set_cons_succ, List.set_cons_zero]
                  refine ⟨_, _, .pointer (some ⟨tb, 1, none⟩), rfl, rfl, ⟨rfl, fun W hW => by first | exact ⟨rfl, rfl⟩ | (simp only [Act.eval, execOp]; go_simp; try exact ⟨rfl, rfl⟩)⟩, ?_⟩
                  simp only [Act.put, List.getElem_toArray, List.getElem_cons_zero, List.getElem_cons_succ, List.setIfInBounds_toArray, List.set_cons_succ, List.set_cons_zero]
                  refine ⟨_, _, .int .i64 (N : Int), rfl, rfl, ⟨rfl, fun W hW => by first | exact ⟨rfl, rfl⟩ | (have l0 := L0 W hW; have l1 := L1 W hW; simp only [Act.eval, execOp]; go_simp; try exact ⟨rfl, rfl⟩)⟩, ?_⟩
                  simp only [Act.put, List.getElem_toArray, List.getElem_cons_zero, List.getElem_cons_succ, List.setIfInBounds_toArray, List.set_cons_succ, List.set_cons_zero]
                  refine ⟨_, _, .int .i64 (4 * (N : Int)), rfl, rfl, ⟨rfl, fun W hW => by first | exact ⟨rfl, rfl⟩ | (simp only [Act.eval, execOp]; go_simp; try exact ⟨rfl, rfl⟩)⟩, ?_⟩
                  simp only [Act.put, List.getElem_toArray, List.getElem_cons_zero, List.getElem_cons_succ, List.setIfInBounds_toArray, List.set_cons_succ, List.set_cons_zero]
                  refine ⟨_, _, .int .i64 ((S : Int) + 4 * (N : Int)), rfl, rfl, ⟨rfl, fun W hW => by first | exact ⟨rfl, rfl⟩ | (simp only [Act.eval, execOp]; go_simp; try exact ⟨rfl, rfl⟩)⟩, ?_⟩
                  simp only [Act.put, List.getElem_toArray, List.getElem_cons_zero, List.getElem_cons_succ, List.setIfInBounds_toArray, List.set_cons_succ, List.set_cons_zero]
                  refine ⟨_, _, .pointer (some ⟨tb, 1, none⟩), rfl, rfl, ⟨rfl, fun W hW => by first | exact ⟨rfl, rfl⟩ | (simp only [Act.eval, execOp]; go_simp; try exact ⟨rfl, rfl⟩)⟩, ?_⟩
                  simp only [Act.put, List.getElem_toArray, List.getElem_cons_zero, List.getElem_cons_succ, List.setIfInBounds_toArray, List.set_cons_succ, List.set_cons_zero]
                  refine ⟨_, _, .int .i64 (N : Int), rfl, rfl, ⟨rfl, fun W hW => by first | exact ⟨rfl, rfl⟩ | (have l0 := L0 W hW; have l1 := L1 W hW; simp only [Act.eval, execOp]; go_simp; try exact ⟨rfl, rfl⟩)⟩, ?_⟩
                  simp only [Act.put, List.getElem_toArray, List.getElem_cons_zero, List.getElem_cons_succ, List.setIfInBounds_toArray, List.set_cons_succ, List.set_cons_zero]
                  refine ⟨_, _, .slice Ah2 h2 ch2, rfl, rfl, ⟨rfl, fun W hW => by first | exact ⟨rfl, rfl⟩ | (simp only [Act.eval, execOp]; go_simp; try exact ⟨rfl, rfl⟩)⟩, ?_⟩
                  simp only [Act.put, List.getElem_toArray, List.getElem_cons_zero, List.getElem_cons_succ, List.setIfInBounds_toArray, List.set_cons_succ, List.set_cons_zero]
                  refine ⟨_, _, .int .i64 (h2 : Int), rfl, rfl, ⟨rfl, fun W hW => by first | exact ⟨rfl, rfl⟩ | (simp only [Act.eval, execOp]; go_simp; try exact ⟨rfl, rfl⟩)⟩, ?_⟩
                  simp only [Act.put, List.getElem_toArray, List.getElem_cons_zero, List.getElem_cons_succ, List.setIfInBounds_toArray, List.set_cons_succ, List.set_cons_zero]
                  refine ⟨_, _, .int .i64 (k9 : Int), rfl, rfl, ⟨rfl, fun W hW => by first | exact ⟨rfl, rfl⟩ | (simp only [Act.eval, execOp]; go_simp; try exact ⟨rfl, rfl⟩)⟩, ?_⟩
                  simp only [Act.put, List.getElem_toArray, List.getElem_cons_zero, List.getElem_cons_succ, List.setIfInBounds_toArray, List.set_cons_succ, List.set_cons_zero]
                  refine ⟨_, rfl, ?_⟩
                  go_wp2_with fail
                  refine (hfr y_1 _ _ (Nat.le_trans hsz hb_1.size) hO).mono ?_
                  rintro e y_2 ⟨A2, c2, rfl, hbx⟩
                  go_wp2_with fail
                  have hb_2 := Qt.more hb_1 hb_1.size hbx
                  clear hbx
                  refine ⟨rfl, hb_2, ?_⟩
                  refine ⟨_, _, .int .i64 (k9 : Int), rfl, rfl, ⟨rfl, fun W hW => by first | exact ⟨rfl, rfl⟩ | (simp only [Act.eval, execOp]; go_simp; try exact ⟨rfl, rfl⟩)⟩, ?_⟩
                  simp only [Act.put, List.getElem_toArray, List.getElem_cons_zero, List.getElem_cons_succ, List.setIfInBounds_toArray, List.set_cons_succ, List.set_cons_zero]
                  refine ⟨_, _, .bool false, rfl, rfl, ⟨rfl, fun W hW => by first | exact ⟨rfl, rfl⟩ | (simp only [Act.eval, execOp]; go_simp; try exact ⟨rfl, rfl⟩)⟩, ?_⟩
                  simp only [Act.put, List.getElem_toArray, List.getElem_cons_zero, List.getElem_cons_succ, List.setIfInBounds_toArray, List.set_cons_succ, List.set_cons_zero]
                  refine ⟨_, _, .bool false, rfl, rfl, ⟨rfl, fun W hW => by first | exact ⟨rfl, rfl⟩ | (simp only [Act.eval, execOp]; go_simp; try exact ⟨rfl, rfl⟩)⟩, ?_⟩
                  simp only [Act.put, List.getElem_toArray, List.getElem_cons_zero, List.getElem_cons_succ, List.setIfInBounds_toArray, List.set_cons_succ, List.set_cons_zero]
                  exact ⟨A1, c1, A2, c2, (by simp only [Act.put, List.setIfInBounds_toArray, List.set_cons_succ, List.set_cons_zero]), hb_2⟩
                · rintro a' v9 ⟨A1, c1, A2, c2, rfl, hb9⟩
                  simp only [Act.put, List.setIfInBounds_toArray, List.set_cons_succ, List.set_cons_zero]
                  clear L0 L1 W7 W8 W9 hno8 hfr
                  go_wp2_with fail
                  go_roundw
                  case measure => simp [intOf]; omega
                  case rel => exact ⟨A9, c9, Ah2, ch2, Aa2, ca2, ii + 1, h2, m2, (L ++ [((k1, k2, k3, k4), n)]), rfl, rfl, rfl, by go_num, (show Hid _ from HI9.out.next hb9)⟩
    · have HE := Lib.hid HH.out.bel
      clear HH
      by_cases h1 : ii < raw.length
      · have hz1 : (ii : Int) < (raw.length : Int) := by omega
        have hz2 : ¬ (ii : Int) < 20 := by omega
        clear hlt h1
        go_wp2
        go_ret
        exact ⟨rfl, HE.out⟩
      · have hz1 : ¬ (ii : Int) < (raw.length : Int) := by omega
        clear hlt h1
        go_wp2
        go_ret
        exact ⟨rfl, HE.out⟩
end Go.Proofs.Ytocepdhjkhhpfaa
