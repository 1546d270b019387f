/-
  Texts that the claims of this seat share, part 12.
-/
import Derived.Test.YtmmaeikeafemaaaGreatB11
import Derived.Test.YtmmaeikeafemaaaGreatB06
import Derived.Test.YtmmaeikeafemaaaGreatSh
import Derived.Shelf.SlSortCmp.WholeK
import Derived.Laws.CopyRow
set_option linter.unusedVariables false
set_option linter.unusedSimpArgs false
namespace Go.Proofs.YtmmaeikeafemaaaGreat
set_option maxRecDepth 100000
set_option linter.unusedVariables false
set_option linter.unusedSimpArgs false
open Go.RowKit Go.Sort

theorem aside_any (k : Nat) (hk : k ≤ 60) (i : Nat) (hi : i < 4) (w : World) : Calls Tryz.prog 74 #[.int .i64 (i : Nat), .int .i64 ((k : Int) + 1)] w fun r w' => r = .returned (.tuple #[.int .i64 (((i % 2 : Nat) : Int) * 2 ^ k), .int .i64 (((i / 2 : Nat) : Int) * 2 ^ k)]) ∧ w = w' := by
  obtain ⟨h1, h2⟩ := pow_bd7 hk
  have hh := half_any k hk w
  have hw : IntKind.i64.wrap ((2 : Int) ^ k) = 2 ^ k := by rw [IntKind.wrap_i64]; generalize (2 : Int) ^ k = p at *; omega
  rcases (by omega : i = 0 ∨ i = 1 ∨ i = 2 ∨ i = 3) with rfl | rfl | rfl | rfl
  all_goals
    go_enter Tryz.func74, Tryz.ntmps74
    go_wp2_with (go_at_call 36; refine hh.mono ?_; rintro r w1 ⟨rfl, rfl⟩)
    go_ret2
    simp
/-- what an append of some cells leaves -/
structure GrA (w w' : World) (v v' : Value) : Prop where
  grown : w.grownBy w' v.ownBlock
  own : v'.ownBlock = v.ownBlock ∨ ∃ q, v'.ownBlock = some q ∧ w.heap.size ≤ q
theorem GrA.refl (w : World) (v : Value) : GrA w w v v := ⟨⟨rfl, rfl, rfl, Nat.le_refl _, fun _ _ _ => rfl⟩, .inl rfl⟩
theorem GrA.trans {w w1 w2 : World} {v v1 v2 : Value} (h : GrA w w1 v v1) (h2 : GrA w1 w2 v1 v2) : GrA w w2 v v2 := by
  have hsz := h.grown.size
  refine ⟨⟨h2.grown.os.trans h.grown.os, h2.grown.tape.trans h.grown.tape, h2.grown.output.trans h.grown.output, Nat.le_trans hsz h2.grown.size, fun i hi hne => ?_⟩, ?_⟩
  · rw [h2.grown.block i (by omega) ?_, h.grown.block i hi hne]
    rcases h.own with e | ⟨q, e, hq⟩
    · rw [e]; exact hne
    · rw [e]; intro h3; injection h3 with h3; omega
  · rcases h2.own with e | ⟨q, e, hq⟩
    · rw [e]; exact h.own
    · exact .inr ⟨q, e, by omega⟩
theorem GrA.below {w w' : World} {v : Value} (hb : Below w.heap.size w w') : GrA w w' v v := ⟨⟨hb.os, hb.tape, hb.output, hb.size, fun i hi _ => hb.block i hi⟩, .inl rfl⟩
theorem GrA.bel {w w' : World} {v v' : Value} {B : Nat} {l : List (Int × Int)} (h : GrA w w' v v') (ho : OwnC w B v l) (hB : B ≤ w.heap.size) : Below B w w' :=
  (Below.refl B w).grown h.grown hB (fun r e => (World.ownsRow.lt ho r e).1)
/-- what gathered answers: some cells, and those of a node -/
def GatR (w : World) (B : Nat) (v : Value) (l : List (Int × Int)) (r : Ending) (w' : World) : Prop := ∃ v', r = .returned v' ∧ OwnC w' B v' l ∧ GrA w w' v v'
theorem GrA.push {w w' : World} {v v' : Value} {o : Obj} (hg : (w.alloc o).grownBy w' v.ownBlock) (hw : v'.ownBlock = v.ownBlock ∨ v'.ownBlock = some (w.heap.size + 1)) : GrA w w' v v' := by
  have hs : (w.alloc o).heap.size = w.heap.size + 1 := by simp
  have hsz := hg.size
  refine ⟨⟨hg.os, hg.tape, hg.output, by omega, fun i hi hne => ?_⟩, ?_⟩
  · rw [hg.block i (by omega) hne, Lib.alloc_old _ _ _ hi]
  · rcases hw with e | e
    · exact .inl e
    · exact .inr ⟨_, e, by omega⟩
/-- a node's box and its corner's, while cells are appended -/
structure GaAt (n : Nat) (w2 wr : World) (v v' : Value) (p : Int × Int) (lev : Int) (kk : Kd) (pp : Int) : Prop where
  cl : ClB wr n p
  nd : NR wr (n + 1) lev kk pp
  gr : GrA w2 wr v v'
  sz : w2.heap.size = n + 2
  low : ∀ q, v.ownBlock = some q → q < n
section
variable {n : Nat} {w2 wr w' : World} {v v1 v2 : Value} {p : Int × Int} {lev : Int} {kk : Kd} {pp : Int}
theorem GaAt.next (h : GaAt n w2 wr v v1 p lev kk pp) (hg : GrA wr w' v1 v2) : GaAt n w2 w' v v2 p lev kk pp := by
  have hne : ∀ i, i < n + 2 → n ≤ i → some i ≠ v1.ownBlock := fun i hi hn e => by
    rcases h.gr.own with e1 | ⟨q, e1, hq⟩
    · rw [e1] at e
      have := h.low i e.symm
      omega
    · rw [e1] at e
      injection e with e
      have := h.sz
      omega
  exact ⟨⟨(hg.grown.block _ (lt_heap6 h.cl.row) (hne n (by omega) (Nat.le_refl _))).trans h.cl.row⟩, (hg.grown.block _ (lt_heap6 h.nd) (hne (n + 1) (by omega) (by omega))).trans h.nd, h.gr.trans hg, h.sz, h.low⟩
end
/-- what gathered answers, at a level -/
def GatAt (A : Option Addr) (l : List Nd) (c B k : Nat) : Prop := ∀ (n : Nat) (acc : List (Int × Int)) (v : Value) (p : Int × Int) (w : World), Is l k n → OwnC w B v acc → B ≤ w.heap.size → RdN w B A l → acc.length + (flat l k n p).length ≤ 999999 →
    -1152921504606846976 ≤ p.1 ∧ p.1 + 2 ^ k ≤ 1152921504606846976 ∧ -1152921504606846976 ≤ p.2 ∧ p.2 + 2 ^ k ≤ 1152921504606846976 →
    Calls Tryz.prog 38 #[v, .slice A l.length c, .int .i64 (n : Nat), cellV p] w (GatR w B v (acc ++ flat l k n p))
set_option maxHeartbeats 16000000 in
theorem gathered_any {room : Int} (A : Option Addr) (l : List Nd) (c B : Nat) (hr : Right6 l room) : ∀ k, k ≤ 42 → GatAt A l c B k := by
  intro k
  induction k with
  | zero =>
    intro _ n acc v p w hn ho hB hR hlen hpb
    obtain ⟨A1, c1, rfl, hcap, _⟩ := Cel.Own.rd ho
    have hlow : ∀ q, (Value.slice A1 acc.length c1).ownBlock = some q → q < w.heap.size := fun q e => (World.ownsRow.lt ho q e).2
    obtain ⟨b0, off, rfl, hbB, hcell⟩ := hR.at_ (by have := hr.two; omega)
    obtain ⟨x0, x1, x2, x3, x4, x5⟩ := hcell n hn.lt
    obtain ⟨px, py⟩ := p
    dsimp only at hpb
    have hn2 := hn.zero hr
    have hlev : (l.getD n deadN).1 = 0 := hn.lev
    have hpop : (l.getD n deadN).2.2 = if n = 1 then 1 else 0 := by
      rcases (by omega : n = 0 ∨ n = 1) with h | h
      · rw [h, hr.dead]; rfl
      · rw [h, hr.live]; rfl
    have hal1 := (Below.refl w.heap.size w).alloc (Nat.le_refl _) (.cells #[.int .i64 px, .int .i64 py] 28)
    have y0 := Qt.keep hal1 x0
    have y1 := Qt.keep hal1 x1
    have y2 := Qt.keep hal1 x2
    have y3 := Qt.keep hal1 x3
    have y4 := Qt.keep hal1 x4
    have y5 := Qt.keep hal1 x5
    rw [hlev] at y0
    rw [hpop] at y5
    have hnz : (n : Int) < (l.length : Int) := by have := hn.lt; omega
    have hs1 : (w.alloc (.cells #[.int .i64 px, .int .i64 py] 28)).heap.size = w.heap.size + 1 := by simp
    generalize (l.getD n deadN) = x at *
    obtain ⟨lv, kk, pp⟩ := x
    dsimp only at y1 y2 y3 y4
    have hf : flat l 0 n (px, py) = if n = 1 then [(px, py)] else [] := rfl
    rw [hf]
    by_cases hn1 : n = 1
    · rw [if_pos hn1] at y5 ⊢
      have hal2 := hal1.alloc hal1.size (.cells #[.int .i64 0, .int .i64 kk.1, .int .i64 kk.2.1, .int .i64 kk.2.2.1, .int .i64 kk.2.2.2, .int .i64 1] 57)
      have hs2 : ((w.alloc (.cells #[.int .i64 px, .int .i64 py] 28)).alloc (.cells #[.int .i64 0, .int .i64 kk.1, .int .i64 kk.2.1, .int .i64 kk.2.2.1, .int .i64 kk.2.2.2, .int .i64 1] 57)).heap.size = w.heap.size + 1 + 1 := by simp
      have hnd : NR ((w.alloc (.cells #[.int .i64 px, .int .i64 py] 28)).alloc (.cells #[.int .i64 0, .int .i64 kk.1, .int .i64 kk.2.1, .int .i64 kk.2.2.1, .int .i64 kk.2.2.2, .int .i64 1] 57)) (w.heap.size + 1) 0 kk 1 := heap_new hs1
      have hcl : ClB ((w.alloc (.cells #[.int .i64 px, .int .i64 py] 28)).alloc (.cells #[.int .i64 0, .int .i64 kk.1, .int .i64 kk.2.1, .int .i64 kk.2.2.1, .int .i64 kk.2.2.2, .int .i64 1] 57)) w.heap.size (px, py) := ⟨heap_old (heap_new rfl)⟩
      have p0 := hnd.lev_
      have p5 := hnd.pop_
      have c0 := hcl.c0
      have c1' := hcl.c1
      dsimp only at c0 c1'
      have how := Cel.Own.below ho hal2
      have hgw := GrA.below (v := .slice A1 acc.length c1) hal2
      obtain ⟨v', w', hrun, hown, hg, hb, hw⟩ := pushC_any (px, py) (Nat.le_trans hB hal2.size) how (by omega)
      have HGF := Lib.hid (hgw.trans (GrA.push hg hw))
      have HOF := Lib.hid hown
      rw [hs2] at hrun
      dsimp only at hrun
      clear hcell x0 x1 x2 x3 x4 x5 hal1 hal2 ho hR hlow hnd hcl how hgw hown hg hb hw hs1 hs2 hf hpop hn hn1 hlev hlen
      go_enter Tryz.func38, Tryz.ntmps38
      go_wp2_with (at_builtin; refine Lib.wpList_append_run _ rfl (.tmp 25) (.tmp 27) 29 29 rfl _ _ rfl rfl _ _ hrun ?_)
      go_ret
      exact ⟨_, rfl, HOF.out, HGF.out⟩
    · rw [if_neg hn1] at y5 ⊢
      rw [List.append_nil]
      have hal2 := hal1.alloc hal1.size (.cells #[.int .i64 0, .int .i64 kk.1, .int .i64 kk.2.1, .int .i64 kk.2.2.1, .int .i64 kk.2.2.2, .int .i64 0] 57)
      have hnd : NR ((w.alloc (.cells #[.int .i64 px, .int .i64 py] 28)).alloc (.cells #[.int .i64 0, .int .i64 kk.1, .int .i64 kk.2.1, .int .i64 kk.2.2.1, .int .i64 kk.2.2.2, .int .i64 0] 57)) (w.heap.size + 1) 0 kk 0 := heap_new hs1
      have p5 := hnd.pop_
      have HOW := Lib.hid (Cel.Own.below ho hal2)
      have HGW := Lib.hid (GrA.below (v := .slice A1 acc.length c1) hal2)
      clear hcell x0 x1 x2 x3 x4 x5 hal1 hal2 ho hR hs1 hlow hnd hf hpop hn hlev
      go_enter Tryz.func38, Tryz.ntmps38
      go_wp2_with fail
      go_ret
      exact ⟨_, rfl, HOW.out, HGW.out⟩
  | succ k ih =>
    intro hk n acc v p w hn ho hB hR hlen hpb
    obtain ⟨A1, c1, rfl, hcap, _⟩ := Cel.Own.rd ho
    have hlow : ∀ q, (Value.slice A1 acc.length c1).ownBlock = some q → q < w.heap.size := fun q e => (World.ownsRow.lt ho q e).2
    obtain ⟨b0, off, rfl, hbB, hcell⟩ := hR.at_ (by have := hr.two; omega)
    obtain ⟨x0, x1, x2, x3, x4, x5⟩ := hcell n hn.lt
    rw [hn.lev, show ((k + 1 : Nat) : Int) = (k : Int) + 1 by omega] at x0
    obtain ⟨px, py⟩ := p
    dsimp only at hpb
    have hal1 := (Below.refl w.heap.size w).alloc (Nat.le_refl _) (.cells #[.int .i64 px, .int .i64 py] 28)
    have y0 := Qt.keep hal1 x0
    have y1 := Qt.keep hal1 x1
    have y2 := Qt.keep hal1 x2
    have y3 := Qt.keep hal1 x3
    have y4 := Qt.keep hal1 x4
    have y5 := Qt.keep hal1 x5
    have hkid : ∀ i, i < 4 → kd (l.getD n deadN).2.1 i = ((kidN l n i : Nat) : Int) ∧ Is l k (kidN l n i) := fun i hi => ⟨kid_cast hr hn hi, kid_is hr hn hi⟩
    have hflat0 : (l.getD n deadN).2.2 = 0 → flat l (k + 1) n (px, py) = [] := flat_dead hr _ hn
    have hall := flatTo_all l k n (px, py)
    obtain ⟨⟨lv, kk, pp⟩, hnode⟩ : ∃ x, x = l.getD n deadN := ⟨_, rfl⟩
    rw [← hnode] at y1 y2 y3 y4 y5 hkid hflat0
    dsimp only at y1 y2 y3 y4 y5 hkid hflat0
    have hnz : (n : Int) < (l.length : Int) := by have := hn.lt; omega
    have hs1 : (w.alloc (.cells #[.int .i64 px, .int .i64 py] 28)).heap.size = w.heap.size + 1 := by simp
    have hal2 := hal1.alloc hal1.size (.cells #[.int .i64 ((k : Int) + 1), .int .i64 kk.1, .int .i64 kk.2.1, .int .i64 kk.2.2.1, .int .i64 kk.2.2.2, .int .i64 pp] 57)
    have HG0 : Hid (GaAt w.heap.size ((w.alloc (.cells #[.int .i64 px, .int .i64 py] 28)).alloc (.cells #[.int .i64 ((k : Int) + 1), .int .i64 kk.1, .int .i64 kk.2.1, .int .i64 kk.2.2.1, .int .i64 kk.2.2.2, .int .i64 pp] 57)) ((w.alloc (.cells #[.int .i64 px, .int .i64 py] 28)).alloc (.cells #[.int .i64 ((k : Int) + 1), .int .i64 kk.1, .int .i64 kk.2.1, .int .i64 kk.2.2.1, .int .i64 kk.2.2.2, .int .i64 pp] 57)) (.slice A1 acc.length c1) (.slice A1 acc.length c1) (px, py) ((k : Int) + 1) kk pp ∧ OwnC ((w.alloc (.cells #[.int .i64 px, .int .i64 py] 28)).alloc (.cells #[.int .i64 ((k : Int) + 1), .int .i64 kk.1, .int .i64 kk.2.1, .int .i64 kk.2.2.1, .int .i64 kk.2.2.2, .int .i64 pp] 57)) B (.slice A1 acc.length c1) (acc ++ flatTo l k n (px, py) 0)) := by
      refine ⟨⟨⟨heap_old (heap_new rfl)⟩, heap_new hs1, GrA.refl _ _, by simp, hlow⟩, ?_⟩
      have : acc ++ flatTo l k n (px, py) 0 = acc := List.append_nil _
      rw [this]
      exact Cel.Own.below ho hal2
    have HW : Hid (GrA w ((w.alloc (.cells #[.int .i64 px, .int .i64 py] 28)).alloc (.cells #[.int .i64 ((k : Int) + 1), .int .i64 kk.1, .int .i64 kk.2.1, .int .i64 kk.2.2.1, .int .i64 kk.2.2.2, .int .i64 pp] 57)) (.slice A1 acc.length c1) (.slice A1 acc.length c1)) := GrA.below hal2
    have l0 := HG0.out.1.nd.lev_
    have p5 := HG0.out.1.nd.pop_
    have HB2 := Lib.hid hal2
    have HIH := Lib.hid (ih (by omega))
    have HO := Lib.hid ho
    have HR := Lib.hid hR
    have HKID := Lib.hid hkid
    have HALL := Lib.hid hall
    have HLEN := Lib.hid hlen
    have k0 := HG0.out.1.nd.kid (i := 0) (by decide)
    have k1 := HG0.out.1.nd.kid (i := 1) (by decide)
    have k2 := HG0.out.1.nd.kid (i := 2) (by decide)
    have k3 := HG0.out.1.nd.kid (i := 3) (by decide)
    simp only [kd] at k0 k1 k2 k3
    have hix := kd_index kk
    by_cases hp0 : pp = 0
    · subst hp0
      have hf := hflat0 rfl
      rw [hf, List.append_nil]
      clear hcell x0 x1 x2 x3 x4 x5 hnode hkid hflat0 hall hal1 hal2 ho hR ih hs1 hlow
      go_enter Tryz.func38, Tryz.ntmps38
      go_wp2_with fail
      go_ret
      exact ⟨_, rfl, by have := HG0.out.2; rwa [show acc ++ flatTo l k n (px, py) 0 = acc from List.append_nil _] at this, HW.out⟩
    · have hp1 : (pp == 0) = false := beq_eq_false_iff_ne.2 hp0
      have hk1 : (((k : Int) + 1) == 0) = false := beq_eq_false_iff_ne.2 (by omega)
      have hk2 : ¬ (k : Int) + 1 = 0 := by omega
      obtain ⟨FL, hFL⟩ : ∃ FL, FL = flat l (k + 1) n (px, py) := ⟨_, rfl⟩
      rw [← hFL]
      have HFL := Lib.hid hFL
      clear hcell x0 x1 x2 x3 x4 x5 hnode hkid hflat0 hall hal1 hal2 ho hR ih hs1 hlow hFL hlen
      go_enter Tryz.func38, Tryz.ntmps38
      go_wp2_with fail
      clear y0 y1 y2 y3 y4 y5 l0 p5 k0 k1 k2 k3
      generalize ((w.alloc (.cells #[.int .i64 px, .int .i64 py] 28)).alloc (.cells #[.int .i64 ((k : Int) + 1), .int .i64 kk.1, .int .i64 kk.2.1, .int .i64 kk.2.2.1, .int .i64 kk.2.2.2, .int .i64 pp] 57)) = w2 at *
      go_loopw [0, 31] (fun u i wr => ∃ j : Nat, j ≤ 4 ∧ i = .int .i64 j ∧ Hid (GaAt w.heap.size w2 wr (.slice A1 acc.length c1) u (px, py) ((k : Int) + 1) kk pp ∧ OwnC wr B u (acc ++ flatTo l k n (px, py) j))) (fun _ i _ => 4 - (intOf i).toNat)
      case atStart => exact ⟨0, by omega, rfl, HG0.out⟩
      case round =>
        obtain ⟨j, hj, rfl, HH⟩ := hrel
        by_cases hlt : j < 4
        · have hltz : (j : Int) < 4 := by omega
          have hkj := HKID.out j hlt
          have hixj := hix j hlt
          rw [hkj.1] at hixj
          have hgr := HH.out.1
          have l0 := hgr.nd.lev_
          have c0 := hgr.cl.c0
          have c1' := hgr.cl.c1
          dsimp only at c0 c1'
          have has := fun W => aside_any k (by omega) j hlt W
          have hGW := HW.out.trans hgr.gr
          have hBw := hGW.bel HO.out hB
          have hRr := HR.out.below hBw (Nat.le_refl _)
          have hp2 := pow_pos7 k
          have e2 : (2 : Int) ^ (k + 1) = 2 ^ k * 2 := Int.pow_succ ..
          have hr0 : 0 ≤ ((j % 2 : Nat) : Int) * 2 ^ k ∧ ((j % 2 : Nat) : Int) * 2 ^ k ≤ 2 ^ k ∧ 0 ≤ ((j / 2 : Nat) : Int) * 2 ^ k ∧ ((j / 2 : Nat) : Int) * 2 ^ k ≤ 2 ^ k := by
            rcases (by omega : j = 0 ∨ j = 1 ∨ j = 2 ∨ j = 3) with rfl | rfl | rfl | rfl <;> simp <;> omega
          have hlen2 : (acc ++ flatTo l k n (px, py) j).length + (flat l k (kidN l n j) (corner7 k (px, py) j)).length ≤ 999999 := by
            have h1 := flatTo_len l k n (px, py) (j + 1) 4 (by omega)
            have h2 : (flatTo l k n (px, py) (j + 1)).length = (flatTo l k n (px, py) j).length + (flat l k (kidN l n j) (corner7 k (px, py) j)).length := List.length_append ..
            rw [HALL.out] at h1
            have := HLEN.out
            rw [List.length_append]
            omega
          have hcall := HIH.out (kidN l n j) (acc ++ flatTo l k n (px, py) j) u0 (corner7 k (px, py) j) wr hkj.2 HH.out.2 (Nat.le_trans hB hBw.size) hRr hlen2 (by
            show _ ≤ px + _ ∧ px + _ + _ ≤ _ ∧ _ ≤ py + _ ∧ py + _ + _ ≤ _
            rw [e2] at hpb
            omega)
          have happ : (acc ++ flatTo l k n (px, py) j) ++ flat l k (kidN l n j) (corner7 k (px, py) j) = acc ++ flatTo l k n (px, py) (j + 1) := List.append_assoc ..
          rw [happ] at hcall
          have hcc : corner7 k (px, py) j = (px + ((j % 2 : Nat) : Int) * 2 ^ k, py + ((j / 2 : Nat) : Int) * 2 ^ k) := rfl
          rw [hcc] at hcall
          unfold cellV at hcall
          dsimp only at hcall
          rw [e2] at hpb
          have hw1 : IntKind.i64.wrap (px + ((j % 2 : Nat) : Int) * 2 ^ k) = px + ((j % 2 : Nat) : Int) * 2 ^ k := by rw [IntKind.wrap_i64]; omega
          have hw2 : IntKind.i64.wrap (py + ((j / 2 : Nat) : Int) * 2 ^ k) = py + ((j / 2 : Nat) : Int) * 2 ^ k := by rw [IntKind.wrap_i64]; omega
          have HGR := Lib.hid hgr
          generalize ((j % 2 : Nat) : Int) * 2 ^ k = rx at *
          generalize ((j / 2 : Nat) : Int) * 2 ^ k = ry at *
          have HC := Lib.hid hcall
          have HPB := Lib.hid hpb
          clear hcall hlen2 happ hcc hr0 e2 hp2 hRr hBw hGW hgr HH hpb
          go_wp2_with fail
          refine (has _).mono ?_
          rintro r w5 ⟨rfl, rfl⟩
          go_wp2_with fail
          refine HC.out.mono ?_
          rintro r w6 ⟨v6, rfl, ho6, hg6⟩
          have HN := Lib.hid (HGR.out.next hg6)
          have HO6 := Lib.hid ho6
          clear ho6 hg6 has l0 c0 c1'
          go_wp2_with fail
          go_roundw
          case measure => simp [intOf]; omega
          case rel => exact ⟨j + 1, by omega, by go_num, HN.out, HO6.out⟩
        · obtain rfl : j = 4 := by omega
          have hltz : ¬ ((4 : Nat) : Int) < 4 := by decide
          have hGW := HW.out.trans HH.out.1.gr
          have hown := HH.out.2
          rw [HALL.out, ← HFL.out] at hown
          have HGW := Lib.hid hGW
          have HOW := Lib.hid hown
          clear HH hGW hown
          go_wp2_with fail
          go_ret
          exact ⟨_, rfl, HOW.out, HGW.out⟩
end Go.Proofs.YtmmaeikeafemaaaGreat
namespace Go.Proofs.YtmmaeikeafemaaaGreat.Cel
open Go.RowKit Go.Sort

/-- where the first cell stands of which p holds; -1 -/
def ixL (p : Int × Int → Bool) (l : List (Int × Int)) : Int := match l.findIdx? p with | some k => k | none => -1
theorem ixL_hit {p : Int × Int → Bool} {l : List (Int × Int)} {k : Nat} (hk : k < l.length) (h : p (l.getD k (0, 0)) = true) (hb : ∀ j, j < k → p (l.getD j (0, 0)) = false) : ixL p l = k := by
  unfold ixL
  have e : l.findIdx? p = some k := by
    rw [List.findIdx?_eq_some_iff_getElem]
    refine ⟨hk, by rwa [List.getD_eq_getElem?_getD, List.getElem?_eq_getElem hk] at h, fun j hj => ?_⟩
    have := hb j hj
    rw [List.getD_eq_getElem?_getD, List.getElem?_eq_getElem (by omega)] at this
    simpa using this
  rw [e]
theorem ixL_miss {p : Int × Int → Bool} {l : List (Int × Int)} (hb : ∀ j, j < l.length → p (l.getD j (0, 0)) = false) : ixL p l = -1 := by
  unfold ixL
  have e : l.findIdx? p = none := by
    rw [List.findIdx?_eq_none_iff]
    intro x hx
    obtain ⟨j, hj, rfl⟩ := List.getElem_of_mem hx
    have := hb j hj
    rwa [List.getD_eq_getElem?_getD, List.getElem?_eq_getElem hj] at this
  rw [e]
theorem ixL_any (p : Int × Int → Bool) (l : List (Int × Int)) : decide (0 ≤ ixL p l) = l.any p := by
  unfold ixL
  cases h : l.findIdx? p with
  | none =>
    rw [List.findIdx?_eq_none_iff] at h
    have : l.any p = false := by rw [List.any_eq_false]; intro x hx; rw [h x hx]; simp
    rw [this]; rfl
  | some k =>
    rw [List.findIdx?_eq_some_iff_getElem] at h
    obtain ⟨hk, hp, _⟩ := h
    have : l.any p = true := List.any_eq_true.2 ⟨_, List.getElem_mem hk, hp⟩
    rw [this]; simp

set_option maxHeartbeats 1000000 in
theorem indexFunc_any (A : Option Addr) (l : List (Int × Int)) (c : Nat) (w : World) (hR : Rd w w.heap.size A l) (hl : l.length ≤ 1000000) (hc : l.length ≤ c) :
    Calls Tryz.prog 87 #[.slice A l.length c, .func (.func 68) #[] #[]] w fun e w' => e = .returned (.int .i64 (ixL (fun p => !inB p) l)) ∧ Below w.heap.size w w' := by
  generalize hr : ixL (fun p => !inB p) l = r
  have HR := Lib.hid hr
  clear hr
  go_enter Tryz.func87, Tryz.ntmps87
  go_wp2
  go_loopw [5, 8] (fun _ i wr => ∃ k : Nat, k ≤ l.length ∧ i = .int .i64 k ∧ Hid (∀ j, j < k → (fun p => !inB p) (l.getD j (0, 0)) = false) ∧ Below w.heap.size w wr) (fun _ i _ => l.length - (intOf i).toNat)
  case atStart => exact ⟨0, Nat.zero_le _, rfl, fun j hj => absurd hj (Nat.not_lt_zero j), Below.refl _ _⟩
  case round =>
    obtain ⟨k, hk, rfl, HK, hb⟩ := hrel
    by_cases hlt : k < l.length
    · have hltz : (k : Int) < (l.length : Int) := by omega
      obtain ⟨b, off, rfl, hbB, hcell⟩ := hR.at_ (by omega)
      obtain ⟨⟨x, y⟩, hxy⟩ : ∃ p, p = l.getD k (0, 0) := ⟨_, rfl⟩
      have a0 := (hcell k hlt).1
      have a1 := (hcell k hlt).2
      rw [← hxy] at a0 a1
      simp only at a0 a1
      have c0 := Qt.keep hb a0
      have c1 := Qt.keep hb a1
      have HXY := Lib.hid hxy
      clear hxy hcell
      cases hin : inB (x, y) with
      | true =>
        have hok : (fun p => !inB p) (l.getD k (0, 0)) = false := by simp only; rw [← HXY.out, hin]; rfl
        have HOK := Lib.hid hok
        clear hok
        go_wp2_with (go_at_call 68; refine (beyond_no (x, y) hin _).mono ?_; rintro e w' ⟨rfl, hb1⟩)
        go_roundw
        case measure => simp [intOf]; omega
        case rel =>
          refine ⟨k + 1, by omega, by go_num, (show Hid _ from fun j hj => ?_), Qt.more hb hb.size hb1⟩
          by_cases hjk : j = k
          · subst hjk; exact HOK.out
          · exact HK.out j (by omega)
      | false =>
        have hok : ixL (fun p => !inB p) l = k := ixL_hit hlt (by rw [← HXY.out]; simp [hin]) HK.out
        have HOK := Lib.hid hok
        clear hok
        go_wp2_with (go_at_call 68; refine (beyond_yes (x, y) hin _).mono ?_; rintro e w' ⟨rfl, hb1⟩)
        go_ret
        exact ⟨Qt.ret_int (by rw [← HR.out, HOK.out]), Qt.more hb hb.size hb1⟩
    · have hltz : ¬ (k : Int) < (l.length : Int) := by omega
      have hm : ixL (fun p => !inB p) l = -1 := ixL_miss fun j hj => HK.out j (by omega)
      have HM := Lib.hid hm
      clear hm
      go_wp2
      go_ret
      exact ⟨Qt.ret_int (by rw [← HR.out, HM.out]), hb⟩

theorem containsFunc_any (A : Option Addr) (l : List (Int × Int)) (c : Nat) (w : World) (hR : Rd w w.heap.size A l) (hl : l.length ≤ 1000000) (hc : l.length ≤ c) :
    Calls Tryz.prog 67 #[.slice A l.length c, .func (.func 68) #[] #[]] w fun e w' => e = .returned (.bool (l.any fun p => !inB p)) ∧ Below w.heap.size w w' := by
  rw [← ixL_any]
  have h := indexFunc_any A l c w hR hl hc
  generalize ixL (fun p => !inB p) l = r at h ⊢
  go_enter Tryz.func67, Tryz.ntmps67
  go_wp2_with (go_at_call 87; refine h.mono ?_; rintro e w' ⟨rfl, hb1⟩)
  all_goals go_ret
  all_goals exact ⟨by first | rfl | (simp [*]; done), hb1⟩

/-- Has: whether a cell is in a list -/
def hasB (l : List (Int × Int)) (q : Int × Int) : Bool := l.any fun p => decide (p = q)
end Go.Proofs.YtmmaeikeafemaaaGreat.Cel
namespace Go.Proofs.YtmmaeikeafemaaaGreat.Cel
open Go.RowKit Go.Sort Go.Shelf

def Grew (w w' : World) : Prop := ∃ q os, w' = grow (w.drewN q) os
theorem Grew.refl (w : World) : Grew w w := ⟨0, #[], by rw [grow_empty]; rfl⟩
theorem Grew.alloc {w w' : World} (h : Grew w w') (o : Obj) : Grew w (w'.alloc o) := by
  obtain ⟨q, os, rfl⟩ := h
  exact ⟨q, os ++ #[o], by rw [alloc_eq_grow, grow_grow]⟩
theorem Grew.trans {w w' w'' : World} (h : Grew w w') (k : Grew w' w'') : Grew w w'' := by
  obtain ⟨q, os, rfl⟩ := h
  obtain ⟨q', os', rfl⟩ := k
  exact ⟨q + q', os ++ os', by show grow (grow ((w.drewN q).drewN q') os) os' = _; rw [grow_grow, World.drewN_drewN]⟩

set_option maxHeartbeats 400000 in
theorem compare_grown (p q : Int × Int) (w : World) :
    Calls Tryz.prog 71 #[.agg #[.int .i64 p.1, .int .i64 p.2], .agg #[.int .i64 q.1, .int .i64 q.2]] w fun e w' => e = .returned (.int .i64 (cmpP p q)) ∧ Grew w w' := by
  obtain ⟨a, b⟩ := p
  obtain ⟨c, d⟩ := q
  simp only [cmpP]
  have hB : Grew w ((w.alloc (.cells #[.int .i64 a, .int .i64 b] 103)).alloc (.cells #[.int .i64 c, .int .i64 d] 103)) := ((Grew.refl _).alloc _).alloc _
  have k0 := cell_grown (w := (w.alloc (.cells #[.int .i64 a, .int .i64 b] 103)).alloc (.cells #[.int .i64 c, .int .i64 d] 103)) (a := ⟨w.heap.size, 0, none⟩) (v := .int .i64 a) (by simp; omega) (by simp)
  have k1 := cell_grown (w := (w.alloc (.cells #[.int .i64 a, .int .i64 b] 103)).alloc (.cells #[.int .i64 c, .int .i64 d] 103)) (a := ⟨w.heap.size, 1, none⟩) (v := .int .i64 b) (by simp; omega) (by simp)
  have k2 := cell_grown (w := (w.alloc (.cells #[.int .i64 a, .int .i64 b] 103)).alloc (.cells #[.int .i64 c, .int .i64 d] 103)) (a := ⟨w.heap.size + 1, 0, none⟩) (v := .int .i64 c) (by simp) (by simp)
  have k3 := cell_grown (w := (w.alloc (.cells #[.int .i64 a, .int .i64 b] 103)).alloc (.cells #[.int .i64 c, .int .i64 d] 103)) (a := ⟨w.heap.size + 1, 1, none⟩) (v := .int .i64 d) (by simp) (by simp)
  go_enter Tryz.func71, Tryz.ntmps71
  go_wp2
  generalize (w.alloc (.cells #[.int .i64 a, .int .i64 b] 103)).alloc (.cells #[.int .i64 c, .int .i64 d] 103) = W at *
  refine Qt.region_tail (C := fun w' => ∃ p : GrownBy, w' = grow (W.drewN p.n) p.os) 10 (by kernel_rfl) (by kernel_rfl) ⟨⟨1, #[]⟩, by rw [grow_empty]; rfl⟩ ?_
  simp only [List.take_succ_cons, List.take_zero, List.drop_succ_cons, List.drop_zero]
  repeat (go_big_quiet_step (first | (go_at_call 91; exact Calls.grown_of ((cmp_any _ _ _).mono fun _ _ ⟨he, hw⟩ => ⟨he, hw ▸ Grew.refl _⟩))))
  refine wpQuiet_nil ?_
  rintro w1 ⟨p1, hw1⟩
  have hb1 : Grew W w1 := ⟨p1.n, p1.os, hw1⟩
  clear hw1
  go_wp2_with fail
  refine (or_any (cmpI b d) (cmpI a c) _ w1.heap.size (by simp) (by simp)).mono ?_
  rintro e w' ⟨rfl, rfl⟩
  go_wp2
  go_ret
  exact ⟨rfl, (hB.trans hb1).alloc _⟩

def encP (x : Int × Int) : List Value := [.int .i64 x.1, .int .i64 x.2]

theorem ltOf_cmpP (x y : Int × Int) : ltOf cmpP x y = lessB x y := by
  unfold ltOf
  rw [Bool.eq_iff_iff, decide_eq_true_eq, cmpP_neg]
theorem swoP : SWO (ltOf cmpP) where
  irrefl x := by rw [ltOf_cmpP]; exact lessB_irrefl x
  trans x y z h1 h2 := by rw [ltOf_cmpP] at *; exact lessB_trans h1 h2
  ntrans x y z h1 h2 := by
    rw [ltOf_cmpP, Bool.eq_false_iff, ne_eq, lessB_iff] at *
    omega

theorem fl_flat (l : List (Int × Int)) (t : Nat) (ht : t < l.length * 2) : (flatK encP 2 l.toArray)[t]! = (fl l)[t]?.getD default := by
  rw [get_flatK _ _ _ _ (by simpa using ht)]
  have hf := fl_get l (t / 2) (by omega)
  have e : (l.toArray)[t / 2]! = l.getD (t / 2) (0, 0) := by
    have h : t / 2 < l.length := by omega
    rw [List.getD_eq_getElem?_getD, List.getElem?_eq_getElem h]
    simp [h]
  rw [e]
  have h2 : t = t / 2 * 2 ∨ t = t / 2 * 2 + 1 := by omega
  rcases h2 with h | h
  · have hm : t % 2 = 0 := by omega
    rw [hm]
    conv => rhs; rw [h, hf.1]
    rfl
  · have hm : t % 2 = 1 := by omega
    rw [hm]
    conv => rhs; rw [h, hf.2]
    rfl

theorem Row.holdsK {w : World} {B T g n cap : Nat} {l : List (Int × Int)} (h : Row w B T g n cap l) : HoldsK encP 2 w g 0 l.toArray := by
  intro j hj
  have hj' : j < l.length * 2 := by simpa using hj
  have hjn : j < n * 2 := by rw [← h.1]; exact hj'
  rw [Nat.zero_add]
  refine ⟨?_, h.free j⟩
  rw [World.ownsRow.cellAt h.2 j hjn]
  show _ = some ((flatK encP 2 l.toArray)[j]!)
  rw [fl_flat l j hj', List.getElem?_eq_getElem (by rw [length_fl]; exact hj')]
  rfl

/-- The row behind the sort. -/
theorem Row.sorted {w : World} {B T g n cap : Nat} {l l' : List (Int × Int)} (h : Row w B T g n cap l) (hl : l'.length = l.length) (m : Nat) (os : Array Obj) :
    Row (sortWorldK encP 2 w g 0 m l'.toArray os) B T g n cap l' ∧ RowKit.Below B w (sortWorldK encP 2 w g 0 m l'.toArray os) := by
  obtain ⟨hn, hlen, h' | ⟨g', cap', cur, hv, hB, hg, hnc, hcm, hcs, htake⟩⟩ := h
  · simp at h'
  · simp only [Value.slice.injEq, Option.some.injEq, Addr.mk.injEq, and_true, true_and] at hv
    obtain ⟨rfl, rfl⟩ := hv
    have hlt : g < w.heap.size := by
      rcases Nat.lt_or_ge g w.heap.size with h | h
      · exact h
      · rw [Array.getElem?_eq_none h] at hg; cases hg
    have hheap : (sortWorldK encP 2 w g 0 m l'.toArray os).heap[g]? = some (.cells (putCells id 0 (flatK encP 2 l'.toArray) cur) T (0, 0)) := by
      show ((w.heap.modify g _) ++ os)[g]? = _
      rw [Array.getElem?_append_left (by simpa using hlt), Array.getElem?_modify, if_pos rfl, hg]
      rfl
    refine ⟨⟨by rw [hl, hn], by rw [length_fl, hl, hn], .inr ⟨g, cap, _, rfl, hB, hheap, hnc, hcm, by simp [putCells, hcs], ?_⟩⟩, ⟨rfl, rfl, rfl, ?_, fun k hk => ?_⟩⟩
    · apply List.ext_getElem?
      intro j
      rw [List.getElem?_take]
      by_cases hj : j < n * 2
      · have hj' : j < l'.length * 2 := by omega
        have hjc : j < cur.size := by rw [hcs]; have := Nat.mul_le_mul_right 2 hnc; omega
        rw [if_pos hj, Array.getElem?_toList]
        have e := fl_flat l' j hj'
        rw [List.getElem?_eq_getElem (by rw [length_fl]; exact hj')] at e
        rw [List.getElem?_eq_getElem (by rw [length_fl]; exact hj')]
        simp only [putCells, Array.getElem?_mapIdx, Array.getElem?_eq_getElem hjc, Option.map_some, Nat.zero_le, true_and, Nat.zero_add, size_flatK, List.size_toArray, hj', if_true, Nat.sub_zero, id]
        rw [e]
        rfl
      · rw [if_neg hj, List.getElem?_eq_none (by rw [length_fl]; omega)]
    · show w.heap.size ≤ ((w.heap.modify g _) ++ os).size
      simp
    · show ((w.heap.modify g _) ++ os)[k]? = _
      have hkg : ¬ g = k := by omega
      rw [Array.getElem?_append_left (by simp; omega), Array.getElem?_modify, if_neg hkg]

theorem sortFunc_any (g : Nat) (l : List (Int × Int)) (cap : Nat) (w : World) {B : Nat} (hR : Row w B 103 g l.length cap l) (hl : l.length ≤ 1000000) :
    Calls Tryz.prog 70 #[.slice (some ⟨g, 0, none⟩) l.length cap, .func (.func 71) #[] #[]] w fun e w' => e = .returned (.tuple #[]) ∧
      ∃ l' : List (Int × Int), l'.Perm l ∧ (l'.Pairwise fun p q => lessB q p = false) ∧ Row w' B 103 g l.length cap l' ∧ RowKit.Below B w w' := by
  have eg : ∀ args w, (callFunc 71 args).run Tryz.prog w = .ok (.enter 71 args) w := enters_of Tryz.func71 (by kernel_rfl) rfl
  have hc : CmpLays Tryz.prog 71 #[] encP 2 cmpP g 0 l.toArray.size w := fun _ _ _ _ x y => compare_grown x y _
  have hcon := AnyQ.slices_SortFunc Tryz.sortP 2 Tryz.isAgg103 Tryz.sizeOf103 encP (fun _ => rfl) (fun x v hv => by simp [encP] at hv; rcases hv with rfl | rfl <;> rfl) cmpP swoP 71 #[] g 0 cap l.toArray w eg hc hR.holdsK hR.lt.2 (by simp; omega)
  change Calls Tryz.prog 70 _ _ _ at hcon
  refine hcon.mono ?_
  rintro e w' ⟨he, d', m, os, hp, hs, rfl⟩
  obtain ⟨hsz, _, hperm⟩ := hp
  have hsz' : d'.size = l.length := by simpa using hsz
  have e0 : (d'.extract 0 l.toArray.size) = d' := by rw [← hsz]; simp
  have e1 : (l.toArray.extract 0 l.toArray.size) = l.toArray := by simp
  rw [e0, e1] at hperm
  have hr := hR.sorted (l' := d'.toList) (by simpa using hsz') m os
  rw [Array.toArray_toList] at hr
  refine ⟨he, d'.toList, by simpa using hperm, ?_, hr⟩
  rw [List.pairwise_iff_getElem]
  intro i j hi hj hij
  have hj2 : j < d'.size := by simpa using hj
  have hi2 : i < d'.size := by simpa using hi
  have h1 := hs i j (Nat.zero_le _) hij (by rw [← hsz]; exact hj2)
  rw [ltOf_cmpP, getElem!_pos d' j hj2, getElem!_pos d' i hi2] at h1
  simpa using h1

end Go.Proofs.YtmmaeikeafemaaaGreat.Cel
namespace Go.Proofs.YtmmaeikeafemaaaGreat.Cel
open Go.RowKit Go.Sort

/-! ### in plain words -/
def ddS (acc : List (Int × Int)) (x : Int × Int) : List (Int × Int) := if acc.getLast? = some x then acc else acc ++ [x]
def ddL (l : List (Int × Int)) : List (Int × Int) := l.foldl ddS []
theorem ddL_snoc (l : List (Int × Int)) (x : Int × Int) : ddL (l ++ [x]) = ddS (ddL l) x := by simp [ddL, List.foldl_append]

theorem snoc_ind {P : List (Int × Int) → Prop} (h0 : P []) (hs : ∀ l x, P l → P (l ++ [x])) (l : List (Int × Int)) : P l := by
  have h : ∀ m : List (Int × Int), P m.reverse := by
    intro m
    induction m with
    | nil => exact h0
    | cons x m ih => rw [List.reverse_cons]; exact hs _ _ ih
  have := h l.reverse
  rwa [List.reverse_reverse] at this

theorem last_ddL (l : List (Int × Int)) : (ddL l).getLast? = l.getLast? := by
  refine snoc_ind (P := fun l => (ddL l).getLast? = l.getLast?) rfl (fun l x ih => ?_) l
  show (ddL (l ++ [x])).getLast? = (l ++ [x]).getLast?
  rw [ddL_snoc, ddS]
  split
  · rename_i h; rw [h]; simp
  · simp
theorem ddL_same {l : List (Int × Int)} {k : Nat} (h0 : 0 < k) (hk : k < l.length) (h : l.getD k (0, 0) = l.getD (k - 1) (0, 0)) : ddL (l.take (k + 1)) = ddL (l.take k) := by
  rw [take_snoc hk, ddL_snoc, ddS, last_ddL]
  have : (l.take k).getLast? = some (l.getD (k - 1) (0, 0)) := by
    rw [List.getLast?_eq_getElem?, List.length_take, Nat.min_eq_left (by omega), List.getElem?_take, if_pos (by omega), List.getD_eq_getElem?_getD, List.getElem?_eq_getElem (by omega)]
    rfl
  rw [this, h, if_pos rfl]
theorem ddL_other {l : List (Int × Int)} {k : Nat} (hk : k < l.length) (h : k = 0 ∨ l.getD k (0, 0) ≠ l.getD (k - 1) (0, 0)) : ddL (l.take (k + 1)) = ddL (l.take k) ++ [l.getD k (0, 0)] := by
  rw [take_snoc hk, ddL_snoc, ddS, last_ddL, if_neg]
  rcases h with h | h
  · subst h; simp
  · by_cases h0 : k = 0
    · subst h0; simp
    · have : (l.take k).getLast? = some (l.getD (k - 1) (0, 0)) := by
        rw [List.getLast?_eq_getElem?, List.length_take, Nat.min_eq_left (by omega), List.getElem?_take, if_pos (by omega), List.getD_eq_getElem?_getD, List.getElem?_eq_getElem (by omega)]
        rfl
      rw [this]
      intro e
      exact h (Option.some.inj e).symm

/-- Of what is sorted it makes the set. -/
theorem ddL_sorted {l : List (Int × Int)} (h : l.Pairwise fun p q => lessB q p = false) : Rises (ddL l) ∧ ∀ y, y ∈ ddL l ↔ y ∈ l := by
  refine snoc_ind (P := fun l => (l.Pairwise fun p q => lessB q p = false) → Rises (ddL l) ∧ ∀ y, y ∈ ddL l ↔ y ∈ l) (fun _ => ⟨List.Pairwise.nil, fun _ => Iff.rfl⟩) (fun l x ih hs => ?_) l h
  have hp := List.pairwise_append.1 hs
  obtain ⟨h1, h2⟩ := ih hp.1
  rw [ddL_snoc, ddS]
  split
  · rename_i hl
    refine ⟨h1, fun y => ?_⟩
    rw [h2, List.mem_append, List.mem_singleton]
    constructor
    · exact .inl
    · rintro (h | rfl)
      · exact h
      · rw [last_ddL] at hl
        exact List.mem_of_getLast? hl
  · rename_i hl
    rw [last_ddL] at hl
    refine ⟨List.pairwise_append.2 ⟨h1, List.pairwise_singleton _ _, fun y hy z hz => ?_⟩, fun y => by rw [List.mem_append, List.mem_append, h2]⟩
    rw [List.mem_singleton] at hz
    subst hz
    have hyl := (h2 y).1 hy
    have hxy : lessB z y = false := hp.2.2 y hyl z (List.mem_singleton.2 rfl)
    refine lessB_total (fun e => ?_) hxy
    subst e
    -- z itself is in l: then it is the last one
    obtain ⟨i, hi, hiz⟩ := List.getElem_of_mem hyl
    have hlast : l.getLast? = some (l[l.length - 1]'(by omega)) := by rw [List.getLast?_eq_getElem?, List.getElem?_eq_getElem (by omega)]
    have h3 : lessB z (l[l.length - 1]'(by omega)) = false := hp.2.2 _ (List.getElem_mem _) z (List.mem_singleton.2 rfl)
    by_cases hil : i = l.length - 1
    · subst hil
      rw [hiz] at hlast
      exact hl hlast
    · have h4 := List.pairwise_iff_getElem.1 hp.1 i (l.length - 1) hi (by omega) (by omega)
      rw [hiz] at h4
      by_cases e : l[l.length - 1]'(by omega) = z
      · rw [e] at hlast; exact hl hlast
      · have := lessB_total e h4
        rw [this] at h3
        cases h3

theorem ddL_setL {l : List (Int × Int)} (h : l.Pairwise fun p q => lessB q p = false) : ddL l = setL l :=
  rises_ext (ddL_sorted h).1 (rises_setL l) fun y => by rw [(ddL_sorted h).2, mem_setL]

/-! ### clear -/
theorem fl_take (l : List (Int × Int)) (k : Nat) : fl (l.take k) = (fl l).take (k * 2) := by
  induction l generalizing k with
  | nil => simp [fl]
  | cons x l ih =>
    cases k with
    | zero => rfl
    | succ k =>
      have e1 : (k + 1) * 2 = k * 2 + 1 + 1 := by omega
      have e2 : ∀ (q : Int × Int) (m : List (Int × Int)), fl (q :: m) = .int .i64 q.1 :: .int .i64 q.2 :: fl m := fun _ _ => rfl
      rw [List.take_succ_cons, e2, e2, ih, e1]
      rfl

theorem Row.cut {w : World} {B T g n cap k : Nat} {l : List (Int × Int)} (h : Row w B T g n cap l) (hk : k ≤ n) : Row w B T g k cap (l.take k) := by
  obtain ⟨hn, hlen, h' | ⟨g', cap', cur, hv, hB, hg, hnc, hcm, hcs, htake⟩⟩ := h
  · simp at h'
  · simp only [Value.slice.injEq, Option.some.injEq, Addr.mk.injEq, and_true, true_and] at hv
    obtain ⟨rfl, rfl⟩ := hv
    have e := fl_take l k
    refine ⟨by rw [List.length_take]; omega, by rw [length_fl, List.length_take]; omega, .inr ⟨g, cap, cur, rfl, hB, hg, by omega, hcm, hcs, ?_⟩⟩
    rw [e, ← htake, List.take_take, Nat.min_eq_left (by omega)]

/-- clear of the row's end: what stands ahead of it stays. -/
theorem clear_row {P : Program} {w : World} {B T t g n cap k c : Nat} {l : List (Int × Int)} (h : Row w B T g n cap l) (hk : k < n) (ht : P.underlying t = some (.slice T)) (hv : ∀ w, (zeroValue T).run P w = .ok (.agg #[.int .i64 0, .int .i64 0]) w) :
    ∃ w', (∀ ty, (Builtin.clear_ #[t] ty #[.slice (some ⟨g, k * 2, none⟩) (n - k) c]).run P w = .ok (.tuple #[]) w') ∧ Row w' B T g k cap (l.take k) ∧ Below B w w' := by
  have hcut := h.cut (Nat.le_of_lt hk)
  obtain ⟨hn, hlen, h' | ⟨g', cap', cur, hvv, hB, hg, hnc, hcm, hcs, htake⟩⟩ := h
  · simp at h'
  · simp only [Value.slice.injEq, Option.some.injEq, Addr.mk.injEq, and_true, true_and] at hvv
    obtain ⟨rfl, rfl⟩ := hvv
    obtain ⟨Z, hZ⟩ : ∃ Z, Z = (Builtin.zeroCells #[.int .i64 0, .int .i64 0] (n - k)).toList := ⟨_, rfl⟩
    have hz1 : ∀ u ∈ Z, u.oneCell' = true := by
      intro u hu
      rw [hZ] at hu
      simp only [Builtin.zeroCells, Array.toList_map, List.mem_map] at hu
      obtain ⟨i, _, rfl⟩ := hu
      have : i % 2 = 0 ∨ i % 2 = 1 := by omega
      rcases this with h | h <;> simp [h] <;> rfl
    have hzl : Z.length = (n - k) * 2 := by rw [hZ]; simp [Builtin.zeroCells]
    have hle : k * 2 + 0 + (n - k) * 2 ≤ cur.size := by
      rw [hcs]
      have := Nat.mul_le_mul_right 2 hnc
      omega
    have hst := run_storeCells_at P g (k * 2) T Z 0 cur w hg (by rw [hzl]; exact hle) hz1
    rw [hzl, Nat.add_zero] at hst
    refine ⟨w.setRow g (cur.toList.take (k * 2) ++ Z ++ cur.toList.drop (k * 2 + (n - k) * 2)).toArray, fun ty => ?_, ?_, ?_⟩
    · obtain ⟨m, hm⟩ : ∃ m, n - k = m + 1 := ⟨n - k - 1, by omega⟩
      rw [hm] at hst hZ ⊢
      simp only [Builtin.clear_]
      simp [run_underlying ht, hv, Value.cells, ← hZ, hst]
    · obtain ⟨hn2, hlen2, _⟩ := hcut
      refine ⟨hn2, hlen2, .inr ⟨g, cap, _, rfl, hB, setRow_heap w g cur _ T _ hg, by omega, hcm, ?_, ?_⟩⟩
      · simp [hzl, hcs]
        have := Nat.mul_le_mul_right 2 hnc
        omega
      · have hkc : k * 2 ≤ cur.toList.length := by rw [Array.length_toList, hcs]; have := Nat.mul_le_mul_right 2 hnc; omega
        show List.take (k * 2) (List.take (k * 2) cur.toList ++ Z ++ _) = _
        rw [List.append_assoc, List.take_append_of_le_length (by rw [List.length_take]; omega), List.take_take, Nat.min_self]
        have e := fl_take l k
        rw [e, ← htake, List.take_take, Nat.min_eq_left (by omega)]
    · exact ⟨rfl, rfl, rfl, by simp, fun j hj => setRow_other w g j _ (by omega)⟩

/-- What the second loop has done: the first kk places hold what is kept of the first p. -/
structure Packs (l : List (Int × Int)) (p kk : Nat) (cur : List (Int × Int)) : Prop where
  len : cur.length = l.length
  kept : cur.take kk = ddL (l.take p)
  size : (ddL (l.take p)).length = kk
  lt : kk < p
  high : ∀ j, p ≤ j + 1 → cur.getD j (0, 0) = l.getD j (0, 0)

theorem Packs.skip {l cur : List (Int × Int)} {p kk : Nat} (h : Packs l p kk cur) (h0 : 0 < p) (hp : p < l.length) (he : l.getD p (0, 0) = l.getD (p - 1) (0, 0)) : Packs l (p + 1) kk cur := by
  have e := ddL_same h0 hp he
  exact ⟨h.len, by rw [e]; exact h.kept, by rw [e]; exact h.size, by have := h.lt; omega, fun j hj => h.high j (by omega)⟩
theorem Packs.keep {l cur : List (Int × Int)} {p kk : Nat} (h : Packs l p kk cur) (hp : p < l.length) (he : l.getD p (0, 0) ≠ l.getD (p - 1) (0, 0)) : Packs l (p + 1) (kk + 1) (cur.set kk (l.getD p (0, 0))) := by
  have e := ddL_other hp (.inr he)
  have hlt := h.lt
  have hkl : kk < cur.length := by rw [h.len]; omega
  refine ⟨by rw [List.length_set]; exact h.len, ?_, by rw [e]; simp [h.size], by omega, fun j hj => ?_⟩
  · rw [e, ← h.kept]
    apply List.ext_getElem?
    intro i
    rw [List.getElem?_take]
    by_cases hi : i < kk
    · rw [if_pos (by omega), List.getElem?_set_ne (by omega), List.getElem?_append_left (by rw [List.length_take]; omega), List.getElem?_take, if_pos hi]
    · by_cases hi2 : i = kk
      · subst hi2
        rw [if_pos (by omega), List.getElem?_set_self hkl, List.getElem?_append_right (by rw [List.length_take]; omega)]
        have : i - (List.take i cur).length = 0 := by rw [List.length_take]; omega
        rw [this]
        rfl
      · rw [if_neg (by omega), List.getElem?_append_right (by rw [List.length_take]; omega), List.getElem?_eq_none]
        rw [List.length_take]; simp; omega
  · rw [← h.high j (by omega), List.getD_eq_getElem?_getD, List.getElem?_set_ne (by omega), List.getD_eq_getElem?_getD]

theorem zeroPlace : ∀ w, (zeroValue 103).run Tryz.prog w = .ok (.agg #[.int .i64 0, .int .i64 0]) w := fun _ => by kernel_rfl

/-- in the first k places nothing stands twice in a row -/
def noTwin (l : List (Int × Int)) (k : Nat) : Prop := ∀ j, 0 < j → j < k → l.getD j (0, 0) ≠ l.getD (j - 1) (0, 0)
theorem noTwin_ddL {l : List (Int × Int)} {k : Nat} (hk : k ≤ l.length) (h : noTwin l k) : ddL (l.take k) = l.take k := by
  induction k with
  | zero => simp [ddL]
  | succ k ih =>
    rw [ddL_other (by omega), ih (by omega) (fun j h0 hj => h j h0 (by omega)), ← take_snoc (by omega)]
    by_cases h0 : k = 0
    · exact .inl h0
    · exact .inr (h k (by omega) (by omega))

set_option maxHeartbeats 2000000 in
theorem compact_any (g : Nat) (l : List (Int × Int)) (cap : Nat) (w : World) {B : Nat} (hR : Row w B 103 g l.length cap l) (hl : l.length ≤ 1000000) :
    Calls Tryz.prog 73 #[.slice (some ⟨g, 0, none⟩) l.length cap] w fun e w' => e = .returned (.slice (some ⟨g, 0, none⟩) (ddL l).length cap) ∧ Row w' B 103 g (ddL l).length cap (ddL l) ∧ Below B w w' := by
  have hcap := hR.cap_
  have hBg := hR.lt
  by_cases h2 : l.length < 2
  · have e : ddL l = l := by
      have := noTwin_ddL (l := l) (Nat.le_refl _) (fun j h0 hj => absurd hj (by omega))
      rwa [List.take_length] at this
    rw [e]
    have hz : (l.length : Int) < 2 := by omega
    clear e
    go_enter Tryz.func73, Tryz.ntmps73
    go_wp2
    go_ret
    exact ⟨rfl, hR, Below.refl _ _⟩
  · have hz : ¬ (l.length : Int) < 2 := by omega
    generalize hD : ddL l = D
    have HD := Lib.hid hD
    have HR := Lib.hid hR
    clear hD hR
    go_enter Tryz.func73, Tryz.ntmps73
    go_wp2
    go_loopw [3] (fun s3 wr => ∃ k : Nat, 1 ≤ k ∧ k ≤ l.length ∧ s3 = .int .i64 k ∧ Hid (noTwin l k) ∧ Hid (Row wr B 103 g l.length cap l) ∧ Below B w wr) (fun i _ => l.length - (intOf i).toNat)
    case atStart => exact ⟨1, Nat.le_refl _, by omega, rfl, fun j h0 hj => absurd hj (by omega), HR.out, Below.refl _ _⟩
    case round =>
      obtain ⟨k, hk1, hk, rfl, HT, HW, hb⟩ := hrel
      by_cases hlt : k < l.length
      · have hltz : (k : Int) < (l.length : Int) := by omega
        obtain ⟨kp, rfl⟩ : ∃ kp, k = kp + 1 := ⟨k - 1, by omega⟩
        obtain ⟨⟨x0, x1⟩, hx⟩ : ∃ p, p = l.getD (kp + 1) (0, 0) := ⟨_, rfl⟩
        obtain ⟨⟨y0, y1⟩, hy⟩ : ∃ p, p = l.getD kp (0, 0) := ⟨_, rfl⟩
        obtain ⟨c0, c1⟩ := HW.out.cell hlt
        obtain ⟨d0, d1⟩ := HW.out.cell (j := kp) (by omega)
        rw [← hx] at c0 c1
        rw [← hy] at d0 d1
        simp only at c0 c1 d0 d1
        have HX := Lib.hid hx
        have HY := Lib.hid hy
        clear hx hy
        have k0 := Qt.cell_in c0
        have k1 := Qt.cell_in c1
        have k2 := Qt.cell_in d0
        have k3 := Qt.cell_in d1
        have hcase : (x0 = y0 ∧ x1 = y1) ∨ (x0 = y0 ∧ ¬ x1 = y1) ∨ ¬ x0 = y0 := by
          by_cases h1 : x0 = y0 <;> by_cases h2 : x1 = y1 <;> simp [h1, h2]
        rcases hcase with ⟨rfl, rfl⟩ | hne
        · go_wp2
          refine Qt.below_all (by kernel_rfl) (by kernel_rfl) ?_
          repeat (go_big_quiet_step (fail))
          refine wpQuiet_nil ?_
          intro w1 hb1
          clear k0 k1 k2 k3 c0 c1 d0 d1
          have hnc : ¬ cap = kp + 1 := by omega
          go_wp2
          have HW1 : Hid (Row w1 B 103 g l.length cap l) := HW.out.below hb1
          have hb2 : Below B w w1 := Qt.more hb (by have := HW.out.lt; omega) hb1
          have HP0 : Hid (Packs l (kp + 1 + 1) (kp + 1) l) := by
            have e := noTwin_ddL (l := l) (k := kp + 1) (by omega) HT.out
            have e2 := ddL_same (l := l) (k := kp + 1) (by omega) hlt (by rw [Nat.add_sub_cancel, ← HX.out, ← HY.out])
            exact ⟨rfl, by rw [e2, e], by rw [e2, e, List.length_take]; omega, by omega, fun _ _ => rfl⟩
          clear hb hb1 HW HX HY HT
          obtain ⟨wo, rfl⟩ : ∃ wo : World, wo = wr := ⟨_, rfl⟩
          go_loopw [3, 5] (fun s3 s5 wr => ∃ (kk k2 : Nat) (cur : List (Int × Int)), s3 = .int .i64 kk ∧ s5 = .int .i64 k2 ∧ 1 ≤ k2 ∧ kp + 1 + k2 ≤ l.length ∧ kk < kp + 1 + k2 ∧ Hid (Packs l (kp + 1 + k2) kk cur) ∧ Hid (Row wr B 103 g l.length cap cur) ∧ Below B w wr) (fun _ i _ => l.length - (kp + 1 + (intOf i).toNat))
          case atStart => exact ⟨kp + 1, 1, l, rfl, rfl, Nat.le_refl _, by omega, by omega, HP0.out, HW1.out, hb2⟩
          case round =>
            obtain ⟨kk, k2, cur, rfl, rfl, h21, h2n, hkk, HP, HC, hbr⟩ := hrel
            by_cases hlt2 : kp + 1 + k2 < l.length
            · obtain ⟨kq, rfl⟩ : ∃ kq, k2 = kq + 1 := ⟨k2 - 1, by omega⟩
              have hltz2 : (kq : Int) + 1 < ((l.length - (kp + 1) : Nat) : Int) := by omega
              obtain ⟨⟨u0, u1⟩, hu⟩ : ∃ p, p = l.getD (kp + 1 + (kq + 1)) (0, 0) := ⟨_, rfl⟩
              obtain ⟨⟨v0, v1⟩, hv⟩ : ∃ p, p = l.getD (kp + 1 + kq) (0, 0) := ⟨_, rfl⟩
              obtain ⟨c0, c1⟩ := HC.out.cell (j := kp + 1 + (kq + 1)) hlt2
              obtain ⟨d0, d1⟩ := HC.out.cell (j := kp + 1 + kq) (by omega)
              rw [HP.out.high _ (by omega), ← hu] at c0 c1
              rw [HP.out.high _ (by omega), ← hv] at d0 d1
              rw [show (kp + 1 + (kq + 1)) * 2 = (kp + 1) * 2 + (kq + 1) * 2 by omega] at c0 c1
              rw [show (kp + 1 + kq) * 2 = (kp + 1) * 2 + kq * 2 by omega] at d0 d1
              simp only at c0 c1 d0 d1
              have HU := Lib.hid hu
              have HV := Lib.hid hv
              clear hu hv
              have k0 := Qt.cell_in c0
              have k1 := Qt.cell_in c1
              have k2 := Qt.cell_in d0
              have k3 := Qt.cell_in d1
              have hcase : (u0 = v0 ∧ u1 = v1) ∨ (u0 = v0 ∧ ¬ u1 = v1) ∨ ¬ u0 = v0 := by
                by_cases h1 : u0 = v0 <;> by_cases h2 : u1 = v1 <;> simp [h1, h2]
              rcases hcase with ⟨rfl, rfl⟩ | hne
              · go_wp2
                refine Qt.below_all (by kernel_rfl) (by kernel_rfl) ?_
                repeat (go_big_quiet_step (fail))
                refine wpQuiet_nil ?_
                intro w3 hb3
                go_wp2
                go_roundw
                case measure => simp [intOf]; omega
                case rel =>
                  exact ⟨kk, kq + 1 + 1, cur, rfl, by go_num, by omega, by omega, by omega, HP.out.skip (by omega) (by omega) (by rw [← HU.out, show kp + 1 + (kq + 1) - 1 = kp + 1 + kq by omega, ← HV.out]), HC.out.below hb3, Qt.more hbr (by have := HC.out.lt; omega) hb3⟩
              · rcases hne with ⟨rfl, hne⟩ | hne
                all_goals
                  go_wp2
                  refine Qt.below_all (by kernel_rfl) (by kernel_rfl) ?_
                  repeat (go_big_quiet_step (fail))
                  refine wpQuiet_nil ?_
                  intro w3 hb3
                  have e0 := Qt.keep hb3 c0
                  have e1 := Qt.keep hb3 c1
                  have HC3 := Lib.hid (HC.out.below hb3)
                  have f0 := HC3.out.free (kk * 2)
                  have f1 := HC3.out.free (kk * 2 + 1)
                  obtain ⟨g0, g1⟩ := HC3.out.cell (j := kk) (by omega)
                  clear k0 k1 k2 k3 c0 c1 d0 d1
                  go_wp2
                  have HS := HC3.out.store kk u0 u1
                  have hbg := HC3.out.lt
                  clear f0 f1 g0 g1 e0 e1
                  go_roundw
                  case measure => simp [intOf]; omega
                  case rel =>
                    refine ⟨kk + 1, kq + 1 + 1, cur.set kk (u0, u1), by go_num, by go_num, by omega, by omega, by omega, ?_, HS, ((Qt.more hbr (by have := HC.out.lt; omega) hb3).setCell hbg.1 _).setCell hbg.1 _⟩
                    have hk3 := HP.out.keep hlt2 (by rw [← HU.out, show kp + 1 + (kq + 1) - 1 = kp + 1 + kq by omega, ← HV.out]; simp [hne])
                    rw [← HU.out] at hk3
                    exact hk3
            · have hltz2 : ¬ (k2 : Int) < ((l.length - (kp + 1) : Nat) : Int) := by omega
              have hend : kp + 1 + k2 = l.length := by omega
              have hkl : kk < l.length := by omega
              obtain ⟨w5, hcl, HR5, hb5⟩ := clear_row (P := Tryz.prog) (t := 100) (c := cap - kk) HC.out hkl Tryz.underlying100 zeroPlace
              have hPD : cur.take kk = D ∧ D.length = kk := by
                have h1 := HP.out.kept
                have h2 := HP.out.size
                rw [hend, List.take_length, HD.out] at h1 h2
                exact ⟨h1, h2⟩
              have HPD := Lib.hid hPD
              have HR5' := Lib.hid HR5
              have hnc2 : ¬ cap = kk := by omega
              have hnk : 0 < l.length - kk := by omega
              clear hend HR5 hPD
              go_wp2
              go_ret
              have hq := HR5'.out
              rw [HPD.out.1] at hq
              rw [HPD.out.2]
              exact ⟨rfl, hq, hbr.trans hb5⟩
        · rcases hne with ⟨rfl, hne⟩ | hne
          all_goals
            go_wp2
            refine Qt.below_all (by kernel_rfl) (by kernel_rfl) ?_
            repeat (go_big_quiet_step (fail))
            refine wpQuiet_nil ?_
            intro w1 hb1
            go_wp2
            go_roundw
            case measure => simp [intOf]; omega
            case rel =>
              refine ⟨kp + 1 + 1, by omega, by omega, by go_num, (show noTwin l (kp + 1 + 1) from fun j h0 hj => ?_), HW.out.below hb1, Qt.more hb (by have := HW.out.lt; omega) hb1⟩
              by_cases hjk : j = kp + 1
              · subst hjk
                rw [Nat.add_sub_cancel, ← HX.out, ← HY.out]
                simp [hne]
              · exact HT.out j h0 (by omega)
      · have hltz : ¬ (k : Int) < (l.length : Int) := by omega
        have hkl : k = l.length := by omega
        have e : D = l := by
          have := noTwin_ddL hk HT.out
          rw [hkl, List.take_length, HD.out] at this; exact this
        have HE := Lib.hid e
        clear e hkl
        go_wp2
        go_ret
        rw [HE.out]
        exact ⟨rfl, HW.out, hb⟩

end Go.Proofs.YtmmaeikeafemaaaGreat.Cel
namespace Go.Proofs.YtmmaeikeafemaaaGreat.Cel
open Go.RowKit Go.Sort

theorem of_out (A : Option Addr) (l : List (Int × Int)) (c : Nat) (w : World) (hR : Rd w w.heap.size A l) (hl : l.length ≤ 1000000) (hc : l.length ≤ c) (ho : (l.any fun p => !inB p) = true) :
    Calls Tryz.prog 37 #[.slice A l.length c] w fun e w' => e = .returned (.tuple #[.slice none 0 0, .int .i64 2]) ∧ Below w.heap.size w w' := by
  have h := containsFunc_any A l c w hR hl hc
  rw [ho] at h
  clear ho
  go_enter Tryz.func37, Tryz.ntmps37
  go_wp2_with (go_at_call 67; refine h.mono ?_; rintro e w' ⟨rfl, hb1⟩)
  go_ret2
  exact ⟨rfl, hb1⟩

set_option maxHeartbeats 1000000 in
/-- up to the end: what is handed to told is the set. -/
theorem of_in (A : Option Addr) (l : List (Int × Int)) (c : Nat) (w : World) (hR : Rd w w.heap.size A l) (hl : l.length ≤ 1000000) (hc : l.length ≤ c) (ho : (l.any fun p => !inB p) = false) (hs : (setL l).length ≤ 2000) :
    Calls Tryz.prog 37 #[.slice A l.length c] w fun e w' => ∃ g, e = .returned (.tuple #[.slice (some ⟨g, 0, none⟩) (setL l).length (setL l).length, .int .i64 0]) ∧ Row w' w.heap.size 28 g (setL l).length (setL l).length (setL l) ∧ Below w.heap.size w w' := by
  have h := containsFunc_any A l c w hR hl hc
  rw [ho] at h
  clear ho
  go_enter Tryz.func37, Tryz.ntmps37
  go_wp2_with (go_at_call 67; refine h.mono ?_; rintro e w1 ⟨rfl, hb1⟩)
  go_wp2_with fail
  refine (places_any A l c w1 ((hR.below hb1 (Nat.le_refl _)).more hb1.size) hl hc).mono ?_
  rintro e w2 ⟨rfl, hr2, hb2⟩
  go_wp2_with fail
  refine (sortFunc_any _ l _ w2 hr2 hl).mono ?_
  rintro e w3 ⟨rfl, l', hperm, hsorted, hr3, hb3⟩
  have hlen := hperm.length_eq
  have hdd : ddL l' = setL l := by
    rw [ddL_setL hsorted]
    exact rises_ext (rises_setL _) (rises_setL _) fun y => by rw [mem_setL, mem_setL]; exact hperm.mem_iff
  rw [← hlen] at hr3
  have h4 := compact_any _ l' _ w3 hr3 (by omega)
  rw [hdd, hlen] at h4
  clear hdd hlen hperm hsorted hr3 hr2
  go_wp2_with fail
  refine h4.mono ?_
  rintro e w4 ⟨rfl, hr4, hb4⟩
  clear h4
  go_wp2_with fail
  refine (told_any _ (setL l) _ w4 hr4.rd hs hr4.cap_).mono ?_
  rintro e w5 ⟨rfl, hr5, hb5⟩
  have hB1 : Below w.heap.size w w4 := ((Qt.more hb1 hb1.size hb2).trans (hb3.mono hb1.size)).trans (hb4.mono hb1.size)
  clear hb1 hb2 hb3 hb4 hr4
  go_wp2
  go_ret2
  refine ⟨_, rfl, ⟨hr5.1, ?_⟩, Qt.more hB1 hB1.size hb5⟩
  exact Own.mono (l := setL l) hr5.2 hB1.size

end Go.Proofs.YtmmaeikeafemaaaGreat.Cel
namespace Go.Proofs.YtmmaeikeafemaaaGreat
set_option maxRecDepth 100000
set_option linter.unusedVariables false
set_option linter.unusedSimpArgs false
open Go.RowKit Go.Sort

/-- the cells of a node, about the middle -/
def about7 (l : List Nd) (e n : Nat) : List (Int × Int) := flat l (e + 1) n (-(2 ^ e), -(2 ^ e))
/-- what Cells answers -/
def cells7 (l : List Nd) (room n : Int) : List (Int × Int) × Int :=
  if (right6 l room && hasB l n) = true then
    (if 2000 < (ndAt l n).2.2 then ([], 3) else if ((about7 l ((ndAt l n).1.toNat - 1) n.toNat).any fun p => !Cel.inB p) = true then ([], 2) else (Cel.setL (about7 l ((ndAt l n).1.toNat - 1) n.toNat), 0))
  else ([], 1)
def CelR (p : List (Int × Int) × Int) (w : World) (r : Ending) (w' : World) : Prop :=
  ∃ A c, r = .returned (.tuple #[.slice A p.1.length c, .int .i64 p.2]) ∧ p.1.length ≤ c ∧ RdC w' w'.heap.size A p.1 ∧ Below w.heap.size w w'
theorem celR_nil {w w' : World} {ee : Int} (hb : Below w.heap.size w w') : CelR ([], ee) w (.returned (.tuple #[.slice none 0 0, .int .i64 ee])) w' := ⟨none, 0, rfl, Nat.le_refl _, Cel.Rd.nil _ _ _, hb⟩
theorem StoreAt.below7 {w wr w' : World} {A : Option Addr} {n c : Nat} {room : Int} (h : StoreAt w wr A n c room) (hb : Below wr.heap.size wr w') : StoreAt w w' A n c room := ⟨(hb.block _ (lt_heap6 h.store)).trans h.store, Qt.more h.bel h.bel.size hb⟩
set_option maxHeartbeats 16000000 in
theorem cells7_any (A : Option Addr) (l : List Nd) (c : Nat) (room n : Int) (w : World) (hR : RdN w w.heap.size A l) (hl : l.length ≤ 1000000) (hc : l.length ≤ c) :
    Calls Tryz.prog 11 #[storeV A l.length c room, .int .i64 n] w (CelR (cells7 l room n) w) := by
  have hG0 := storeAt_0 w A l.length c room
  have hright := nodeRight_any A l c room _ ((hR.below hG0.bel (Nat.le_refl _)).more hG0.bel.size) hl hc
  have s0 := hG0.s0
  have s1 := hG0.s1
  have HG := Lib.hid hG0
  unfold storeV at hright ⊢
  clear hG0
  cases hr : right6 l room with
  | false =>
    have hz : cells7 l room n = ([], 1) := by unfold cells7; rw [hr]; rfl
    rw [hz]
    rw [hr] at hright
    clear hz hr hR
    go_enter Tryz.func11, Tryz.ntmps11
    go_wp2_with (go_at_call 34; refine hright.mono ?_; rintro r w1 ⟨rfl, hb1⟩; have H1 := Lib.hid (HG.out.below7 hb1); clear hb1 hright s0 s1)
    go_ret2
    exact celR_nil H1.out.bel
  | true =>
    rw [hr] at hright
    have hR6 := right_iff.1 hr
    have h2 := hR6.two
    have hhs := fun W (h : StoreAt w W A l.length c room) => hasSquare_any A l c room n W ((hR.below h.bel (Nat.le_refl _)).more h.bel.size) hl
    unfold storeV at hhs
    cases hb : hasB l n with
    | false =>
      have hz : cells7 l room n = ([], 1) := by unfold cells7; rw [hr, hb]; rfl
      rw [hz]
      rw [hb] at hhs
      have HHS := Lib.hid hhs
      clear hz hr hR hb hhs hR6
      go_enter Tryz.func11, Tryz.ntmps11
      go_wp2_with fail
      refine hright.mono ?_
      rintro r w1 ⟨rfl, hb1⟩
      have H1 := Lib.hid (HG.out.below7 hb1)
      have t0 := H1.out.s0
      have t1 := H1.out.s1
      clear hb1 hright s0 s1
      go_wp2_with fail
      refine (HHS.out w1 H1.out).mono ?_
      rintro r w2 ⟨rfl, hb2⟩
      have H2 := Lib.hid (H1.out.below7 hb2)
      clear hb2 t0 t1
      go_wp2_with fail
      go_ret2
      exact celR_nil H2.out.bel
    | true =>
      rw [hb] at hhs
      have HHS := Lib.hid hhs
      have hz : cells7 l room n = if 2000 < (ndAt l n).2.2 then ([], 3) else if ((about7 l ((ndAt l n).1.toNat - 1) n.toNat).any fun p => !Cel.inB p) = true then ([], 2) else (Cel.setL (about7 l ((ndAt l n).1.toNat - 1) n.toNat), 0) := by unfold cells7; rw [hr, hb]; rfl
      obtain ⟨z, hzz⟩ : ∃ z, z = cells7 l room n := ⟨_, rfl⟩
      rw [← hzz] at hz ⊢
      unfold hasB at hb
      rw [decide_eq_true_eq] at hb
      obtain ⟨h1, h2', h3⟩ := hb
      obtain ⟨m, rfl⟩ : ∃ m : Nat, n = (m : Int) := ⟨n.toNat, by omega⟩
      rw [ndAt_nat] at h3 hz
      have hbd := right_bd hR6 m (by omega)
      obtain ⟨e, he⟩ : ∃ e : Nat, (l.getD m deadN).1 = (e : Int) + 1 := ⟨((l.getD m deadN).1 - 1).toNat, by omega⟩
      have he41 : e ≤ 41 := by omega
      have hIs : Is l (e + 1) m := ⟨by omega, by rw [he]; omega⟩
      rw [he, show ((e : Int) + 1).toNat = e + 1 by omega, show e + 1 - 1 = e by omega, Int.toNat_natCast] at hz
      have hmz : (m : Int) < (l.length : Int) := by omega
      have hpop := flat_pop hR6 (e + 1) m (-(2 ^ e), -(2 ^ e)) hIs
      obtain ⟨b0, off, rfl, hbB, hcell⟩ := hR.at_ (by omega)
      have HC := Lib.hid hcell
      have HRN := Lib.hid hR
      have HR6 := Lib.hid hR6
      have HIS := Lib.hid hIs
      have HE := Lib.hid he
      have HZ := Lib.hid hz
      clear hhs hR hr hz hzz hcell hR6 hIs hbd h1 h2' h3 he
      go_enter Tryz.func11, Tryz.ntmps11
      go_wp2_with fail
      refine hright.mono ?_
      rintro r w1 ⟨rfl, hb1⟩
      have H1 := Lib.hid (HG.out.below7 hb1)
      have t0 := H1.out.s0
      have t1 := H1.out.s1
      clear hb1 hright s0 s1
      go_wp2_with fail
      refine (HHS.out w1 H1.out).mono ?_
      rintro r w2 ⟨rfl, hb2⟩
      have H2 := H1.out.below7 hb2
      obtain ⟨n0, n1, n2, n3, n4, n5⟩ := HC.out m (by omega)
      have m0 := Qt.keep H2.bel n0
      have m1 := Qt.keep H2.bel n1
      have m2 := Qt.keep H2.bel n2
      have m3 := Qt.keep H2.bel n3
      have m4 := Qt.keep H2.bel n4
      have m5 := Qt.keep H2.bel n5
      rw [HE.out] at m0
      have hz := HZ.out
      obtain ⟨⟨lv, kk, pp⟩, hnode⟩ : ∃ q, q = l.getD m deadN := ⟨_, rfl⟩
      rw [← hnode] at m1 m2 m3 m4 m5 hz hpop
      dsimp only at m1 m2 m3 m4 m5 hz hpop
      have hal := (Below.refl w2.heap.size w2).alloc (Nat.le_refl _) (.cells #[.int .i64 ((e : Int) + 1), .int .i64 kk.1, .int .i64 kk.2.1, .int .i64 kk.2.2.1, .int .i64 kk.2.2.2, .int .i64 pp] 57)
      have H3 := Lib.hid (H2.below7 hal)
      have hn3 : NR (w2.alloc (.cells #[.int .i64 ((e : Int) + 1), .int .i64 kk.1, .int .i64 kk.2.1, .int .i64 kk.2.2.1, .int .i64 kk.2.2.2, .int .i64 pp] 57)) w2.heap.size ((e : Int) + 1) kk pp := heap_alloc_new w2 _
      have u0 := H2.s0
      have l0 := hn3.lev_
      have p0 := hn3.pop_
      have v0 := H3.out.s0
      have HZ1 := Lib.hid hz
      have HPOP := Lib.hid hpop
      clear hb2 t0 t1 H1 HHS n0 n1 n2 n3 n4 n5 H2 hal hn3 hnode HZ hz hpop
      by_cases hbig : 2000 < pp
      · have hz1 : z = ([], 3) := by rw [HZ1.out, if_pos hbig]
        subst hz1
        go_wp2_with fail
        go_ret2
        exact celR_nil H3.out.bel
      · have hz := HZ1.out
        rw [if_neg hbig] at hz
        have hFl : (about7 l e m).length ≤ 2000 := by
          have := HPOP.out
          unfold about7
          omega
        have hhf := fun W => half_any e (by omega) W
        obtain ⟨q1, q2⟩ := pow_bd7 (e := e) (by omega)
        have q3 : (2 : Int) ^ (e + 1) = 2 ^ e * 2 := Int.pow_succ ..
        have q4 : (2 : Int) ^ e ≤ 2199023255552 := pow_le7 (f := 41) he41
        have hneg : IntKind.i64.wrap (-(2 ^ e)) = -(2 ^ e) := by rw [IntKind.wrap_i64]; generalize (2 : Int) ^ e = p at *; omega
        have HZ2 := Lib.hid hz
        clear hz HZ1 HPOP
        go_wp2_with fail
        clear m0 m1 m2 m3 m4 m5 u0
        generalize (w2.alloc (.cells #[.int .i64 ((e : Int) + 1), .int .i64 kk.1, .int .i64 kk.2.1, .int .i64 kk.2.2.1, .int .i64 kk.2.2.2, .int .i64 pp] 57)) = w3 at *
        refine (hhf w3).mono ?_
        rintro r w4 ⟨rfl, rfl⟩
        clear hhf l0 p0
        have hga := gathered_any (some ⟨b0, off, none⟩) l c w3.heap.size HR6.out (e + 1) (by omega) m [] (.slice none 0 0) (-(2 ^ e), -(2 ^ e)) w3 HIS.out (World.ownsRow_nil _ _ _ _) (Nat.le_refl _) ((HRN.out.below H3.out.bel (Nat.le_refl _)).more H3.out.bel.size) (by show 0 + _ ≤ _; unfold about7 at hFl; omega) (by rw [q3]; generalize (2 : Int) ^ e = p at *; dsimp only; omega)
        rw [List.nil_append] at hga
        unfold cellV at hga
        dsimp only at hga
        have hga2 : Calls Tryz.prog 38 #[.slice none 0 0, .slice (some ⟨b0, off, none⟩) l.length c, .int .i64 (m : Int), .agg #[.int .i64 (-(2 ^ e)), .int .i64 (-(2 ^ e))]] w3 (GatR w3 w3.heap.size (.slice none 0 0) (about7 l e m)) := hga
        generalize about7 l e m = F at *
        clear hga q3
        go_wp2_with fail
        refine hga2.mono ?_
        rintro r w5 ⟨v5, rfl, ho5, hg5⟩
        have hB5 : Below w3.heap.size w3 w5 := (Below.refl _ w3).grown hg5.grown (Nat.le_refl _) (fun r e => by cases e)
        have H5 := Lib.hid (H3.out.below7 hB5)
        obtain ⟨A5, c5, rfl, hc5, hR5⟩ := Cel.Own.rd ho5
        cases hany : F.any fun p => !Cel.inB p with
        | true =>
          have hof := Cel.of_out A5 F c5 w5 hR5 (by omega) hc5 hany
          have hz1 : z = ([], 2) := by rw [HZ2.out, if_pos hany]
          subst hz1
          clear hga2 ho5 hg5 hB5 hR5 HZ2 hany
          go_wp2_with fail
          refine hof.mono ?_
          rintro r w6 ⟨rfl, hb6⟩
          have H6 := Lib.hid (H5.out.below7 hb6)
          clear hof hb6
          go_wp2_with fail
          go_ret2
          exact celR_nil H6.out.bel
        | false =>
          have hsl : (Cel.setL F).length ≤ 2000 := Nat.le_trans (Cel.length_setL F) hFl
          have hof := Cel.of_in A5 F c5 w5 hR5 (by omega) hc5 hany hsl
          have hz1 : z = (Cel.setL F, 0) := by rw [HZ2.out, if_neg (by rw [hany]; decide)]
          subst hz1
          clear hga2 ho5 hg5 hB5 hR5 HZ2 hany
          go_wp2_with fail
          refine hof.mono ?_
          rintro r w6 ⟨gq, rfl, hr6, hb6⟩
          have H6 := Lib.hid (H5.out.below7 hb6)
          have HR6' := Lib.hid hr6
          clear hof hb6 hr6
          go_wp2_with fail
          go_ret2
          exact ⟨_, _, rfl, Nat.le_refl _, HR6'.out.rd, H6.out.bel⟩
end Go.Proofs.YtmmaeikeafemaaaGreat
namespace Go.Proofs.YtmmaeikeafemaaaGreat
set_option maxRecDepth 100000
set_option linter.unusedVariables false
set_option linter.unusedSimpArgs false

theorem kid_alive (l : List Nd) (k n : Nat) {i : Nat} (hi : i < 4) (c : Int × Int) : ∃ c', q7 k c' = i ∧ Agree k c' c ∧ alive l k (kidN l n i) c = alive l (k + 1) n c' := by
  obtain ⟨c', h1, h2⟩ := with_bit k i c hi
  refine ⟨c', h1, h2, ?_⟩
  show _ = alive l k (kidN l n (q7 k c')) c'
  rw [h1, alive_agree k _ h2]
/-- a node without cells is the empty one of its level -/
theorem emp_of {l : List Nd} {room : Int} (hr : Right6 l room) : ∀ (k n : Nat), Is l k n → (∀ c, alive l k n c = false) → Emp l k n
  | 0, n, h, ha => by
    have h0 : decide (n = 1) = false := ha (0, 0)
    have h1 := h.zero hr
    have h2 : ¬ n = 1 := by simpa using h0
    show n = 0
    omega
  | k + 1, n, h, ha => by
    have hk : ∀ i, i < 4 → ∀ c, alive l k (kidN l n i) c = false := fun i hi c => by
      obtain ⟨c', _, _, e⟩ := kid_alive l k n hi c
      rw [e]
      exact ha c'
    have he : ∀ i, i < 4 → kidN l n i = kidN l n 0 := fun i hi => alive_inj hr k _ _ (kid_is hr h hi) (kid_is hr h (by decide)) fun c => by rw [hk i hi c, hk 0 (by decide) c]
    have h0 := emp_of hr k _ (kid_is hr h (i := 0) (by decide)) (hk 0 (by decide))
    refine ⟨kidN l n 0, h0, ?_⟩
    have f1 := (fits_iff.1 (hr.fits n (h.two hr) h.lt)).first
    have e : (l.getD n deadN).2.1 = (((kidN l n 0 : Nat) : Int), ((kidN l n 0 : Nat) : Int), ((kidN l n 0 : Nat) : Int), ((kidN l n 0 : Nat) : Int)) := kd_ext fun i hi => by rw [kid_cast hr h hi, he i hi, kd_four _ i hi]
    rw [e] at f1
    exact f1
theorem kids_fit7 {l : List Nd} {room : Int} (hr : Right6 l room) {k n : Nat} (h : Is l (k + 1) n) (hk : k + 1 ≤ 42) : Fit4 l (l.getD n deadN).2.1 := by
  refine ⟨fun i hi => ?_, ?_⟩
  · have hi' := kid_is hr h hi
    have h0 := kid_is hr h (i := 0) (by decide)
    have c0 : (l.getD n deadN).2.1.1 = _ := kid_cast hr h (i := 0) (by decide)
    rw [kid_cast hr h hi, c0, ndAt_nat, ndAt_nat, hi'.lev, h0.lev]
    exact ⟨by omega, by have := hi'.lt; omega, rfl⟩
  · have h0 := kid_is hr h (i := 0) (by decide)
    have c0 : (l.getD n deadN).2.1.1 = _ := kid_cast hr h (i := 0) (by decide)
    rw [c0, ndAt_nat, h0.lev]
    omega
/-- a node that is there is found -/
theorem build_had {l : List Nd} {room : Int} (hr : Right6 l room) : ∀ (k n : Nat) (S : List (Int × Int)), k ≤ 42 → Is l k n → (∀ c, alive l k n c = S.any fun s => agreeB k s c) → buildC room k l S = (l, (n : Int), 0)
  | 0, n, S, _, h, ha => by
    have h0 : decide (n = 1) = S.any fun s => agreeB 0 s (0, 0) := ha (0, 0)
    have h1 := h.zero hr
    unfold buildC
    by_cases hS : S = []
    · subst hS
      have : ¬ n = 1 := by simpa using h0
      obtain rfl : n = 0 := by omega
      rfl
    · rw [if_neg hS]
      obtain ⟨s, t, rfl⟩ := List.exists_cons_of_ne_nil hS
      have e : agreeB 0 s (0, 0) = true := rfl
      rw [List.any_cons, e, Bool.true_or] at h0
      obtain rfl : n = 1 := by simpa using h0
      rfl
  | k + 1, n, S, hk, h, ha => by
    by_cases hS : S = []
    · subst hS
      rw [buildC_nil]
      exact empty_had hr _ _ hk (emp_of hr _ _ h fun c => by rw [ha c]; rfl)
    · unfold buildC
      rw [if_neg hS]
      have hq : ∀ i, i < 4 → buildC room k l (S.filter fun c => decide (q7 k c = i)) = (l, ((kidN l n i : Nat) : Int), 0) := fun i hi => by
        refine build_had hr k _ _ (by omega) (kid_is hr h hi) fun c => ?_
        obtain ⟨c', h1, h2, e⟩ := kid_alive l k n hi c
        rw [e, ha c', Bool.eq_iff_iff, List.any_eq_true, List.any_eq_true]
        constructor
        · rintro ⟨s, hs, hs2⟩
          obtain ⟨g1, g2⟩ := agree_succ.1 (agree_iff.1 hs2)
          exact ⟨s, List.mem_filter.2 ⟨hs, by simpa using g1.trans h1⟩, agree_iff.2 (g2.trans h2)⟩
        · rintro ⟨s, hs, hs2⟩
          obtain ⟨g1, g2⟩ := List.mem_filter.1 hs
          have g3 : q7 k s = i := by simpa using g2
          exact ⟨s, g1, agree_iff.2 (agree_succ.2 ⟨g3.trans h1.symm, (agree_iff.1 hs2).trans h2.symm⟩)⟩
      have h4 : fourTo (fun i l => buildC room k l (S.filter fun c => decide (q7 k c = i))) l 4 = (l, (l.getD n deadN).2.1, 0) := by
        have e : (l.getD n deadN).2.1 = (((kidN l n 0 : Nat) : Int), ((kidN l n 1 : Nat) : Int), ((kidN l n 2 : Nat) : Int), ((kidN l n 3 : Nat) : Int)) := kd_ext fun i hi => by
          rw [kid_cast hr h hi]
          rcases (by omega : i = 0 ∨ i = 1 ∨ i = 2 ∨ i = 3) with rfl | rfl | rfl | rfl <;> rfl
        have q0 := hq 0 (by decide)
        have q1 := hq 1 (by decide)
        have q2 := hq 2 (by decide)
        have q3 := hq 3 (by decide)
        rw [e]
        simp only [fourTo, q0, q1, q2, q3, if_pos, kset]
      unfold four
      rw [h4, if_pos rfl]
      exact put_again (kids_fit7 hr h hk) (fits_iff.1 (hr.fits n (h.two hr) h.lt)).first

/-- A node that stands for a set. -/
structure Sq (l : List Nd) (room : Int) (e n : Nat) (S : List (Int × Int)) : Prop where
  right : Right6 l room
  is : Is l (e + 1) n
  low : e ≤ 41
  set : Cel.rightB S = true
  ins : ∀ s ∈ S, insideB e s = true
  alive : ∀ c, alive l (e + 1) n c = (S.map (inwardC e)).any fun s => agreeB (e + 1) s c
section
variable {l m : List Nd} {room : Int} {e n p : Nat} {S T : List (Int × Int)}
theorem Sq.grows (h : Sq l room e n S) (g : Grows l m) (hr : Right6 m room) : Sq m room e n S := ⟨hr, h.is.grows g, h.low, h.set, h.ins, fun c => by rw [alive_grows h.right g c _ _ h.is, h.alive c]⟩
theorem inside_sq {e : Nat} {c : Int × Int} (h : insideB e c = true) : InSq (e + 1) (inwardC e c) := by
  unfold insideB at h
  have h' := of_decide_eq_true h
  have hp : (2 : Int) ^ (e + 1) = 2 ^ e * 2 := Int.pow_succ _ _
  unfold InSq inwardC
  rw [hp]
  generalize (2 : Int) ^ e = P at *
  refine ⟨?_, ?_, ?_, ?_⟩ <;> simp only <;> omega
theorem Sq.mem (h : Sq l room e n S) {c : Int × Int} (hc : insideB e c = true) : Go.Proofs.YtmmaeikeafemaaaGreat.alive l (e + 1) n (inwardC e c) = true ↔ c ∈ S := by
  rw [h.alive, List.any_eq_true]
  constructor
  · rintro ⟨s, hs, ha⟩
    obtain ⟨t, ht, rfl⟩ := List.mem_map.1 hs
    have := agree_ext (inside_sq (h.ins t ht)) (inside_sq hc) (agree_iff.1 ha)
    unfold inwardC at this
    injection this with e1 e2
    have : t = c := Prod.ext (by omega) (by omega)
    exact this ▸ ht
  · intro hs
    exact ⟨inwardC e c, List.mem_map_of_mem hs, agree_iff.2 (Agree.refl _ _)⟩
theorem Sq.same (h : Sq l room e n S) (h2 : Sq l room e n T) : S = T :=
  Cel.rises_ext ((Cel.rightB_iff _).1 h.set).2.2 ((Cel.rightB_iff _).1 h2.set).2.2 fun y => ⟨fun hy => (h2.mem (h.ins y hy)).1 ((h.mem (h.ins y hy)).2 hy), fun hy => (h.mem (h2.ins y hy)).1 ((h2.mem (h2.ins y hy)).2 hy)⟩
theorem Sq.one (h : Sq l room e n S) (h2 : Sq l room e p S) : n = p := alive_inj h.right _ _ _ h.is h2.is fun c => by rw [h.alive, h2.alive]
theorem makeZ_yes (hlow : e ≤ 41) (hS : Cel.rightB S = true) (hin : ∀ s ∈ S, insideB e s = true) : makeZ room l S ((e : Int) + 1) = buildC room (e + 1) l (S.map (inwardC e)) := by
  unfold makeZ
  have e1 : ((e : Int) + 1).toNat = e + 1 := by omega
  rw [e1, Nat.add_sub_cancel, if_pos, if_pos]
  · exact List.all_eq_true.2 hin
  · simp only [hS, Bool.and_true, Bool.and_eq_true, decide_eq_true_eq]
    omega
theorem Sq.again (h : Sq l room e n S) : make7 l room S ((e : Int) + 1) = (l, (n : Int), 0) := by
  unfold make7 grown6
  rw [if_pos (right_iff.2 h.right), makeZ_yes h.low h.set h.ins, build_had h.right _ _ _ (by have := h.low; omega) h.is h.alive, if_pos rfl]
theorem Sq.flat (h : Sq l room e n S) (c : Int × Int) : c ∈ about7 l e n ↔ c ∈ S := by
  unfold about7
  rw [mem_flat]
  have hp : (2 : Int) ^ (e + 1) = 2 ^ e * 2 := Int.pow_succ _ _
  have e2 : (c.1 - -(2 ^ e), c.2 - -(2 ^ e)) = inwardC e c := by unfold inwardC; exact Prod.ext (by omega) (by omega)
  have e3 : InAt7 (e + 1) (-(2 ^ e), -(2 ^ e)) c ↔ insideB e c = true := by
    unfold InAt7 insideB
    rw [hp, decide_eq_true_iff]
    generalize (2 : Int) ^ e = P
    simp only
    omega
  rw [e2, e3]
  exact ⟨fun ⟨h1, h2⟩ => (h.mem h1).1 h2, fun hc => ⟨h.ins c hc, (h.mem (h.ins c hc)).2 hc⟩⟩
theorem Sq.len (h : Sq l room e n S) : (about7 l e n).length = S.length :=
  ((List.perm_ext_iff_of_nodup (flat_nodup _ _ _) (((Cel.rightB_iff _).1 h.set).2.2.imp fun {a b} hab hE => by subst hE; exact absurd hab (by simp [Cel.lessB]))).2 h.flat).length_eq
theorem Sq.pop (h : Sq l room e n S) : (l.getD n deadN).2.2 = S.length := by
  have h1 := flat_pop h.right _ _ (-(2 ^ e), -(2 ^ e)) h.is
  have h2 := h.len
  have h3 := ((Cel.rightB_iff _).1 h.set).1
  unfold about7 at h2
  rw [h2] at h1
  omega
theorem Sq.has (h : Sq l room e n S) : hasB l n = true := by
  unfold hasB
  rw [decide_eq_true_iff, ndAt_nat, h.is.lev]
  have := h.is.lt
  omega
theorem Sq.cells (h : Sq l room e n S) : cells7 l room n = (S, 0) := by
  unfold cells7
  have h3 := (Cel.rightB_iff _).1 h.set
  have e1 : ((l.getD n deadN).1).toNat - 1 = e := by rw [h.is.lev]; omega
  rw [if_pos (by rw [right_iff.2 h.right, h.has]; rfl), ndAt_nat, h.pop, if_neg (by omega), e1, Int.toNat_natCast, if_neg, Cel.rises_ext (Cel.rises_setL _) h3.2.2 fun y => (Cel.mem_setL _ y).trans (h.flat y)]
  intro ha
  obtain ⟨c, hc, hb⟩ := List.any_eq_true.1 ha
  rw [h3.2.1 c ((h.flat c).1 hc)] at hb
  exact absurd hb (by decide)
end
end Go.Proofs.YtmmaeikeafemaaaGreat
