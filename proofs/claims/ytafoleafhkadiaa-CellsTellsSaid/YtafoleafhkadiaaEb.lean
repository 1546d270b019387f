/-
  How many neighbours each cell about a set has: the map that the program counts them in.
-/
import Derived.Test.YtafoleafhkadiaaEa
import Derived.Outline
import Derived.Deep.DeepFit
namespace Go.Proofs.Ytafoleafhkadiaa
open Go.RowKit Go.Sort
open Go.Maps (Keyed)

/-- 'm[k]' at such a map, for the walk. -/
theorem wpList_lookup_near {P : Program} (w : World) {ops : Array Oper} {rest : List Oper} {o : Oper} {a : Act} {Q : Exit → Act → World → Prop}
    (hg : o.guard = none) (m x : Operand) (t : TypeId) (hop : o.op = Op.lookup t m x false)
    (k e : TypeId) (K : Keyed P k) (ht : P.underlying t = some (.map k e)) (hz : (zeroValue e).run P w = .ok (.agg #[.bool false, .int .i64 0]) w) (b n : Nat) (D : DataW Unit)
    (hm : a.eval m = .map (some b)) (hown : w.ownsMap P k nearR b n D) (key : Value) (kl : Lit) (hx : a.eval x = key) (hkey : keyOf P k key = some kl)
    (hK : ∀ (al : Bool) (c : Int), D.atKey kl zeroD = .lit (.int .i64 (2 * c + if al then 1 else 0)) → wpList P ops Q rest (a.put o.dst (.agg #[.bool al, .int .i64 c])) w) :
    wpList P ops Q (o :: rest) a w := by
  refine wpList_plain hg fun K' hK' => ?_
  obtain ⟨v, ps, hrun, hv⟩ := hown.lookup K ht hz (nearR_mk false 0) hkey
  obtain ⟨⟨al, c⟩, rfl, hy⟩ := nearR_inv hv
  unfold Oper.wp
  simp [execOp, hop, hm, hx, hrun, Result.andThen]
  exact hK' _ _ (hK al c (by injection hy))

theorem run_makeMap_n (n : Int) (w : World) : (Instr.makeMap 72 (some (.int .i64 n))).run Try.prog w = .ok (.map (some w.heap.size)) (w.alloc (.map #[] 0)) := by
  kernel_rfl

theorem around_turn {w wr w1 : World} {o1 o2 : Obj} {bc : Nat} {u v : Value} (hb : Below w.heap.size w wr) (hlt : w.heap.size < bc) (hbc : bc < wr.heap.size) (d0 : wr.cell? ⟨bc, 0, none⟩ = some u) (d1 : wr.cell? ⟨bc, 1, none⟩ = some v)
    (hg : ((wr.alloc o1).alloc o2).grownBy w1 (some w.heap.size)) : w1.cell? ⟨bc, 0, none⟩ = some u ∧ w1.cell? ⟨bc, 1, none⟩ = some v ∧ Below w.heap.size w w1 ∧ bc < w1.heap.size := by
  have hal : ∀ a u, wr.cell? a = some u → ((wr.alloc o1).alloc o2).cell? a = some u := fun a u h =>
    (World.cell?_alloc_lt _ _ _ (by have := block_lt_of_cell h; simp; omega)).trans ((World.cell?_alloc_lt _ _ _ (block_lt_of_cell h)).trans h)
  have hne : ∀ o : Nat, some (⟨bc, o, none⟩ : Addr).block ≠ some w.heap.size := fun o e => by injection e with e; simp only at e; omega
  refine ⟨grown_cell hg (hal _ _ d0) (hne 0), grown_cell hg (hal _ _ d1) (hne 1), ((hb.alloc hb.size _).alloc (by have := hb.size; simp; omega) _).grown hg (by have := hb.size; simp; omega) (fun k e => by injection e with e; omega), ?_⟩
  have := hg.size
  simp at this
  omega

/-- what was found, in the proof's words -/
theorem near_found {D : DataW Unit} {E : Evs} {p : Int × Int} {al : Bool} {cn : Int} (h : Tells D E) (h1 : I64 p.1) (h2 : I64 p.2) (hat : D.atKey (kl p) zeroD = .lit (.int .i64 (2 * cn + if al = true then 1 else 0))) : al = aliveE E p ∧ cn = countE E p := by
  have e := (h.2 p h1 h2).2
  rw [hat] at e
  exact code_inj e
theorem countE_le (E : Evs) (p : Int × Int) : countE E p ≤ E.length := List.countP_le_length

theorem near_small {D : DataW Unit} {E : Evs} {p : Int × Int} {al : Bool} {cn : Int} (h : Tells D E) (h1 : I64 p.1) (h2 : I64 p.2) (hat : D.atKey (kl p) zeroD = .lit (.int .i64 (2 * cn + if al = true then 1 else 0))) (hl : E.length ≤ 100000) : 0 ≤ cn ∧ cn ≤ 100000 := by
  have e := (near_found h h1 h2 hat).2
  have := countE_le E p
  omega

theorem near_on {w1 : World} {B n t k : Nat} {l : List (Int × Int)} {D : DataW Unit} {d d' : DataW Unit} {p : Int × Int} {b : Bool} (hT : Tells D (evTo l k t)) (h1 : I64 p.1) (h2 : I64 p.2) (he : evTo l k (t + 1) = evTo l k t ++ [(p, b)])
    (hO : w1.ownsMap Try.prog 25 nearR B n (D.put (kl p) d)) (hd : d = d') (hd' : d' = .lit (.int .i64 (2 * (countE (evTo l k t ++ [(p, b)]) p : Int) + if aliveE (evTo l k t ++ [(p, b)]) p then 1 else 0))) {n' t' : Nat} (hn : n ≤ n') (ht : t' = t + 1) :
    ∃ D', Aside (w1.ownsMap Try.prog 25 nearR B n' D' ∧ Tells D' (evTo l k t')) := by
  subst hd ht
  rw [he]
  exact ⟨_, hO.mono hn, tells_put hT h1 h2 hd'⟩

/-- what comes of it: a map at a block of its own that tells the counts -/
def Around (l : List (Int × Int)) (w : World) (e : Ending) (w' : World) : Prop :=
  ∃ D, e = .returned (.map (some w.heap.size)) ∧ w'.ownsMap Try.prog 25 nearR w.heap.size (9 * l.length) D ∧ Hid (Tells D (evs l)) ∧ Below w.heap.size w w'

set_option maxHeartbeats 2000000 in
set_option maxRecDepth 100000 in
theorem around_any (A : Option Addr) (l : List (Int × Int)) (c : Nat) (w : World) (hR : Rd w w.heap.size A l) (hl : l.length ≤ 2000) (hc : l.length ≤ c) (hin : ∀ p ∈ l, inB p = true) :
    Calls Try.prog 51 #[.slice A l.length c] w (Around l w) := by
  have HIN := Lib.hid hin
  clear hin
  have hmk := run_makeMap_n
  go_enter Try.func51, Try.ntmps51
  go_wp2
  go_loopw [16] (fun i wr => ∃ (k : Nat) (D : DataW Unit), k ≤ l.length ∧ i = .int .i64 k ∧ Aside (wr.ownsMap Try.prog 25 nearR w.heap.size (9 * k) D ∧ Tells D (evTo l k 0)) ∧ Below w.heap.size w wr) (fun i _ => l.length - (intOf i).toNat)
  case atStart => exact ⟨0, _, Nat.zero_le _, rfl, ⟨World.ownsMap_made _ _ _ _, tells_nil⟩, (Below.refl _ _).alloc (Nat.le_refl _) _⟩
  case round =>
    obtain ⟨k, D, hk, rfl, HM, hb⟩ := hrel
    by_cases hlt : k < l.length
    · have hltz : (k : Int) < (l.length : Int) := by omega
      obtain ⟨b, off, rfl, hbB, hcell⟩ := (hR.below hb (Nat.le_refl _)).at_ (by omega)
      have hsz := hb.size
      obtain ⟨⟨x, y⟩, hxy⟩ : ∃ p, p = l.getD k (0, 0) := ⟨_, rfl⟩
      have c0 := (hcell k hlt).1
      have c1 := (hcell k hlt).2
      rw [← hxy] at c0 c1
      simp only at c0 c1
      have HXY := Lib.hid hxy
      clear hxy hcell
      have hIN := inB_bd (HIN.out (x, y) (by rw [HXY.out]; exact getD_mem hlt))
      simp only at hIN
      go_wp2
      obtain ⟨wo, rfl⟩ : ∃ wo : World, wo = wr := ⟨_, rfl⟩
      go_loopw [6] (fun dy wr => ∃ (z : Int) (D : DataW Unit), -1 ≤ z ∧ z ≤ 2 ∧ dy = .int .i64 z ∧ Aside (wr.ownsMap Try.prog 25 nearR w.heap.size (9 * k + 3 * (z + 1).toNat) D ∧ Tells D (evTo l k (3 * (z + 1).toNat))) ∧
        wr.cell? ⟨wo.heap.size, 0, none⟩ = some (.int .i64 x) ∧ wr.cell? ⟨wo.heap.size, 1, none⟩ = some (.int .i64 y) ∧ Below w.heap.size w wr ∧ wo.heap.size < wr.heap.size) (fun dy _ => (2 - intOf dy).toNat)
      case atStart => exact ⟨-1, D, by omega, by omega, rfl, ⟨HM.out.1.alloc _, HM.out.2⟩, by simp, by simp, hb.alloc hsz _, by simp⟩
      case round =>
        obtain ⟨z, D1, hz1, hz2, rfl, HM1, b0, b1, hb1, hw1⟩ := hrel
        by_cases hzt : z ≤ 1
        · go_wp2
          obtain ⟨wp, rfl⟩ : ∃ wp : World, wp = wr := ⟨_, rfl⟩
          go_loopw [7] (fun dx wr => ∃ (v : Int) (D : DataW Unit), -1 ≤ v ∧ v ≤ 2 ∧ dx = .int .i64 v ∧ Aside (wr.ownsMap Try.prog 25 nearR w.heap.size (9 * k + 3 * (z + 1).toNat + (v + 1).toNat) D ∧ Tells D (evTo l k (3 * (z + 1).toNat + (v + 1).toNat))) ∧
            wr.cell? ⟨wo.heap.size, 0, none⟩ = some (.int .i64 x) ∧ wr.cell? ⟨wo.heap.size, 1, none⟩ = some (.int .i64 y) ∧ Below w.heap.size w wr ∧ wo.heap.size < wr.heap.size) (fun dx _ => (2 - intOf dx).toNat)
          case atStart => exact ⟨-1, D1, by omega, by omega, rfl, HM1, b0, b1, hb1, hw1⟩
          case round =>
            obtain ⟨v, D2, hv1, hv2, rfl, HM2, d0, d1, hb2, hw2⟩ := hrel
            by_cases hvt : v ≤ 1
            · have i1 : I64 (x + v) := ⟨by omega, by omega⟩
              have i2 : I64 (y + z) := ⟨by omega, by omega⟩
              have HK := Lib.hid (keyOf_cell (p := (x + v, y + z)) i1 i2)
              have HEV := Lib.hid (evTo_on HXY.out (v := v) (z := z) (by omega) (by omega))
              have hlen := length_evTo l k (3 * (z + 1).toNat + (v + 1).toNat)
              have HL : Hid ((evTo l k (3 * (z + 1).toNat + (v + 1).toNat)).length ≤ 100000) := Lib.hid (by omega)
              have HI := Lib.hid (And.intro i1 i2)
              have hwl := Lib.hid HM.out.1.lt
              clear i1 i2
              by_cases hc0 : v = 0 ∧ z = 0
              · have ev : x + v = x := by omega
                have ez : y + z = y := by omega
                have hw3 : w.heap.size < wo.heap.size := HM.out.1.lt
                simp only [ev, ez] at HK HEV HI
                have HC := Lib.hid hc0
                clear hlen hc0
                go_wp2_with (first
                  | (at_lookup; refine wpList_lookup_near _ rfl _ _ 72 rfl 25 75 cellKeyed Try.underlying72 (zeroNear _) w.heap.size _ D2 rfl (HM2.out.1.alloc _) _ _ rfl HK.out ?_; intro al cn hat; have HAT := Lib.hid hat; clear hat)
                  | (at_mapUpdate; refine wpList_mapUpdate_own _ rfl _ _ _ 72 rfl 25 75 cellKeyed Try.underlying72 nearR w.heap.size _ D2 rfl ((HM2.out.1.alloc _).alloc _) (by unfold maxLen; omega) _ _ _ rfl rfl HK.out _ [] (nearR_mk _ _) ?_; intro w1 hown1 hgrow1; have HO := Lib.hid hown1; have HG := Lib.hid hgrow1; clear hown1 hgrow1))
                go_roundw
                case measure => simp [intOf]; omega
                case rel =>
                  obtain ⟨ha, hcn⟩ := near_found HM2.out.2 HI.out.1 HI.out.2 HAT.out
                  obtain ⟨D3, hD3⟩ := near_on HM2.out.2 HI.out.1 HI.out.2 HEV.out HO.out rfl (by rw [hcn]; have := code_on (evTo l k (3 * (z + 1).toNat + (v + 1).toNat)) (x, y); rw [show decide (v = 0 ∧ z = 0) = true from decide_eq_true HC.out, ← this]) (n' := 9 * k + 3 * (z + 1).toNat + (v + 1 + 1).toNat) (t' := 3 * (z + 1).toNat + (v + 1 + 1).toNat) (by omega) (by omega)
                  obtain ⟨e0, e1, e2, e3⟩ := around_turn hb2 hw3 hw2 d0 d1 HG.out
                  exact ⟨v + 1, D3, by omega, by omega, rfl, hD3, e0, e1, e2, e3⟩
              · have hw3 : w.heap.size < wo.heap.size := HM.out.1.lt
                have HC := Lib.hid hc0
                clear hc0 hlen
                obtain ⟨p, hp, q, hq, hpq, hv9, hz9⟩ : ∃ p, x + v = p ∧ ∃ q, y + z = q ∧ (¬ (p = x ∧ q = y)) ∧ (x + v = p) ∧ (y + z = q) := ⟨_, rfl, _, rfl, fun ⟨h1, h2⟩ => HC.out ⟨by omega, by omega⟩, rfl, rfl⟩
                rw [hp, hq] at HK HEV HI
                simp only at HK HEV HI
                have HPQ := Lib.hid hpq
                clear hpq hv9 hz9
                by_cases hpx : p = x
                all_goals
                  have hqy : p = x → ¬ q = y := fun e1 e2 => HPQ.out ⟨e1, e2⟩
                  first
                    | (subst hpx; have hq2 := hqy rfl; clear hqy)
                    | clear hqy
                  go_wp2_with (first
                    | (at_lookup; refine wpList_lookup_near _ rfl _ _ 72 rfl 25 75 cellKeyed Try.underlying72 (zeroNear _) w.heap.size _ D2 rfl (HM2.out.1.alloc _) _ _ rfl HK.out ?_; intro al cn hat; have HAT := Lib.hid hat; clear hat; obtain ⟨hcn1, hcn2⟩ := near_small (p := (_, q)) HM2.out.2 HI.out.1 HI.out.2 HAT.out HL.out)
                    | (at_mapUpdate; refine wpList_mapUpdate_own _ rfl _ _ _ 72 rfl 25 75 cellKeyed Try.underlying72 nearR w.heap.size _ D2 rfl ((HM2.out.1.alloc _).alloc _) (by unfold maxLen; omega) _ _ _ rfl rfl HK.out _ [] (nearR_mk _ _) ?_; intro w1 hown1 hgrow1; have HO := Lib.hid hown1; have HG := Lib.hid hgrow1; clear hown1 hgrow1))
                  go_roundw
                  case measure => simp [intOf]; omega
                  case rel =>
                    obtain ⟨ha, hcn⟩ := near_found (p := (_, q)) HM2.out.2 HI.out.1 HI.out.2 HAT.out
                    obtain ⟨D3, hD3⟩ := near_on HM2.out.2 HI.out.1 HI.out.2 HEV.out HO.out rfl (by rw [hcn, ha, show decide (v = 0 ∧ z = 0) = false from decide_eq_false HC.out, ← code_off]) (n' := 9 * k + 3 * (z + 1).toNat + (v + 1 + 1).toNat) (t' := 3 * (z + 1).toNat + (v + 1 + 1).toNat) (by omega) (by omega)
                    obtain ⟨e0, e1, e2, e3⟩ := around_turn hb2 hw3 hw2 d0 d1 HG.out
                    exact ⟨v + 1, D3, by omega, by omega, rfl, hD3, e0, e1, e2, e3⟩
            · obtain rfl : v = 2 := by omega
              go_wp2
              go_roundw
              case measure => simp [intOf]; omega
              case rel => exact ⟨z + 1, D2, by omega, by omega, rfl, ⟨HM2.out.1.mono (by omega), by have h := HM2.out.2; rwa [show 3 * (z + 1).toNat + ((2 : Int) + 1).toNat = 3 * (z + 1 + 1).toNat by omega] at h⟩, d0, d1, hb2, hw2⟩
        · obtain rfl : z = 2 := by omega
          go_wp2
          go_roundw
          case measure => simp [intOf]; omega
          case rel => exact ⟨k + 1, D1, by omega, by go_num, ⟨HM1.out.1.mono (by omega), by have h := HM1.out.2; rwa [show 3 * ((2 : Int) + 1).toNat = 9 by decide, evTo_nine hlt] at h⟩, hb1⟩
    · have hltz : ¬ (k : Int) < (l.length : Int) := by omega
      obtain rfl : k = l.length := by omega
      go_wp2
      go_ret
      exact ⟨D, rfl, HM.out.1, by have h := HM.out.2; rw [evTo_end] at h; exact h, hb⟩

end Go.Proofs.Ytafoleafhkadiaa
