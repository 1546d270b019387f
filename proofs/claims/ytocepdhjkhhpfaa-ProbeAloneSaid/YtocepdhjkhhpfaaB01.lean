/-
  Texts that the claims of this seat share, part 1.
-/
import Derived.Test.YtocepdhjkhhpfaaB00
set_option linter.unusedVariables false
set_option linter.unusedSimpArgs false
namespace Go.Proofs.Ytocepdhjkhhpfaa
set_option maxRecDepth 100000
set_option linter.unusedVariables false
set_option linter.unusedSimpArgs false
open Go.RowKit Go.Sort

/-- what a call answers that changes nothing of what was there -/
def ValR (v : Value) (w : World) (r : Ending) (w' : World) : Prop := r = .returned v ∧ Below w.heap.size w w'

theorem results_cellW {P : Program} {fn : Func} {p : Tmp} {ty : TypeId} (h : fn.results = #[.cell p ty]) (tmps : Array Value) (w : World) (g : Nat) (t : TypeId) (cs : Array Value) (fr : Nat × Nat) (d : TypeDesc)
    (hp : tmps.getD p undef = .pointer (some ⟨g, 0, none⟩)) (hg : w.heap[g]? = some (.cells cs t fr))
    (hu : P.underlying ty = some d) (hd : (match d with | .struct _ | .array _ _ => true | _ => false) = true) (hi : (P.info? ty).map (·.size) = some cs.size) :
    (results fn tmps).run P w = .ok (.agg cs) w := by
  have hp' : tmps[p]?.getD undef = .pointer (some ⟨g, 0, none⟩) := by simpa using hp
  simp [results, h, hp', asAddr, run_loadVar_row w g t ty cs fr d hg hu hd hi]
theorem fresh2 (w : World) (o o' : Obj) : ((w.alloc o).alloc o').heap[w.heap.size + 1]? = some o' := by
  have h := heap_alloc_new (w.alloc o) o'
  rwa [show (w.alloc o).heap.size = w.heap.size + 1 by simp] at h
theorem fresh1 (w : World) (o o' : Obj) : ((w.alloc o).alloc o').heap[w.heap.size]? = some o := (Lib.alloc_old _ _ _ (by simp)).trans (heap_alloc_new w o)
theorem below2 (w : World) (o o' : Obj) : Below w.heap.size w ((w.alloc o).alloc o') := ((Below.refl _ _).alloc (Nat.le_refl _) _).alloc (by simp) _
theorem split_any (n : Int) (w : World) (hn : I64 n) : Calls Try.prog 45 #[.int .i64 n] w fun r w' => r = .returned (.tuple #[.int .i64 (hdC n), .int .i64 (hdH n)]) ∧ w = w' := by
  unfold hdC hdH
  obtain ⟨h1, h2⟩ := hn
  by_cases h : n < 0
  · rw [if_pos h, if_pos h]
    go_enter Try.func45, Try.ntmps45
    go_wp2
    go_ret2
    exact ⟨rfl, rfl⟩
  · rw [if_neg h, if_neg h]
    have e1 : Int.tdiv n 1048576 = n / 1048576 := Int.tdiv_eq_ediv_of_nonneg (by omega)
    have e2 : Int.tmod n 1048576 = n % 1048576 := Int.tmod_eq_emod_of_nonneg (by omega)
    have e3 : wrap64 (n / 1048576) = n / 1048576 := by unfold wrap64; omega
    go_enter Try.func45, Try.ntmps45
    go_wp2
    go_ret2
    exact ⟨by rw [← e1, ← e2] at *; simp [e3], rfl⟩
theorem below3 (w : World) (a b c : Obj) : Below w.heap.size w (((w.alloc a).alloc b).alloc c) := (((Below.refl _ _).alloc (Nat.le_refl _) _).alloc (by simp) _).alloc (by simp; omega) _
/-- an access, as it comes out: in new memory -/
def NewA (y : Ac) (w : World) (r : Ending) (w' : World) : Prop := r = .returned (acV y) ∧ w' = w.alloc (.cells #[.int .i64 y.1, .int .i64 y.2.1, .int .i64 y.2.2.1, .int .i64 y.2.2.2] 102)
theorem freeSwap_any (at0 r1 f : Int) (w : World) (hx : WdI r1) (hf : WdI f) : Calls Try.prog 118 #[.int .i64 at0, .int .i64 r1, .int .i64 f] w (NewA (3, at0, r1, (hdC r1 + 1) * 1048576 + f) w) := by
  have hs := fun W => split_any r1 W hx.i64
  have hb := hdH_bd r1
  have hb2 := hdC_bd hx.2
  obtain ⟨h, hh⟩ : ∃ h, h = hdH r1 := ⟨_, rfl⟩
  obtain ⟨c, hc⟩ : ∃ c, c = hdC r1 := ⟨_, rfl⟩
  rw [← hh, ← hc] at hs
  rw [← hh] at hb
  rw [← hc] at hb2
  try rw [← hh]
  try rw [← hc]
  clear hh hc hx
  obtain ⟨hf1, hf2⟩ := hf
  go_enter Try.func118, Try.ntmps118
  go_wp2_with fail
  refine (hs _).mono ?_
  rintro e w' ⟨rfl, rfl⟩
  go_wp2_with fail
  exact bodyPost_ret (results_cellW rfl _ _ w.heap.size _ _ _ _ rfl (heap_alloc_new _ _) Try.underlying102 rfl (by kernel_rfl)) rfl ⟨rfl, rfl⟩
end Go.Proofs.Ytocepdhjkhhpfaa
