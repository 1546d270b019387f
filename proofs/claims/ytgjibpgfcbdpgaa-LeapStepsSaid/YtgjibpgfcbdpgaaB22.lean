/-
  Texts that the claims of this seat share, part 22.
-/
import Derived.Test.YtgjibpgfcbdpgaaB21
import Derived.Test.YtgjibpgfcbdpgaaB07
import Derived.RangeFuncNested
import Derived.RangeFuncBound
import Derived.RangeFuncCalls
import Derived.RangeFuncLeaves
import Derived.Shelf.Abstract
import Derived.Shelf.RegionOpen
import Derived.WalkKit
import Derived.OwnWalkIn
import Derived.TacticsInMore
import Derived.LoopNIn
import Derived.LoopIn
import Derived.Test.YtgjibpgfcbdpgaaB04
import Derived.Test.YtgjibpgfcbdpgaaB03
import Derived.Deep.RegionWith
import Derived.Test.YtgjibpgfcbdpgaaB01
import Derived.Test.YtgjibpgfcbdpgaaB00
import Derived.Test.YtgjibpgfcbdpgaaB05
import Derived.Test.YtgjibpgfcbdpgaaB10
set_option linter.unusedVariables false
set_option linter.unusedSimpArgs false
namespace Go.Proofs.Ytgjibpgfcbdpgaa
set_option maxRecDepth 100000
set_option linter.unusedVariables false
set_option linter.unusedSimpArgs false
open Go.RowKit Go.Sort

theorem is_of_lev {l : List Nd} {room n : Int} (hr : Right6 l room) (h2 : 2 ≤ levI l n) : ∃ k e : Nat, n = (k : Int) ∧ Is l (e + 2) k ∧ e ≤ 40 := by
  unfold levI at h2
  split at h2
  · rename_i hn
    obtain ⟨k, rfl⟩ : ∃ k : Nat, n = k := ⟨n.toNat, by omega⟩
    rw [ndAt_nat] at h2
    have hb := right_bd hr k (by omega)
    exact ⟨k, ((l.getD k deadN).1 - 2).toNat, rfl, ⟨by omega, by omega⟩, by omega⟩
  · omega
set_option maxHeartbeats 8000000 in
theorem trimC_any {n0 g b mb : Nat} {room : Int} {l : List Nd} {w : World} (hin : LIn n0 w g b mb l room) {k e : Nat} (hk : Is l (e + 2) k) (he : e ≤ 40) {nb : Nat} (hnb : LR w nb (k : Int)) :
    Calls Try.prog 45 #[makerL g mb, .pointer (some ⟨nb, 0, none⟩)] w (LpR (trimZ room l (k : Int)) n0 g b mb room w) := by
  have hn0 := hin.ix.hB
  have hal := (Below.refl w.heap.size w).alloc (Nat.le_refl _) (.cells #[.pointer (some ⟨g, 0, none⟩), .map (some mb)] 76)
  have hM : ML (w.alloc (.cells #[.pointer (some ⟨g, 0, none⟩), .map (some mb)] 76)) w.heap.size g mb := heap_new rfl
  have hI := hin.below hal
  have hrun := trim_any hI hk he
  have HA := Lib.hid (BelL.of hal hn0)
  have m0 := hM.c0
  have m1 := hM.c1
  have x0 := (hnb.below hal).c
  rw [← trimZ_is hk] at hrun
  clear hal hM hin hI hk
  generalize trimZ room l (k : Int) = z at *
  obtain ⟨zl, zn, ze⟩ := z
  go_enter Try.func45, Try.ntmps45
  go_wp2_with fail
  generalize (w.alloc (.cells #[.pointer (some ⟨g, 0, none⟩), .map (some mb)] 76)) = w0 at *
  refine hrun.mono ?_
  rintro r w2 ⟨rfl, hl2, hb2⟩
  have HB2 := Lib.hid (HA.out.trans hb2)
  have HL2 := Lib.hid hl2
  clear hrun hl2 hb2 m0 m1
  go_wp2_with fail
  go_ret2
  exact ⟨rfl, HL2.out, HB2.out⟩
set_option maxHeartbeats 8000000 in
theorem runC_any {n0 g b mb : Nat} {room : Int} {l : List Nd} {w : World} (hin : LIn n0 w g b mb l room) {k e : Nat} (hk : Is l (e + 2) k) (he : e ≤ 40) (c : Int) (hc : I64 c) {nb cb : Nat} (hnb : LR w nb (k : Int)) (hcb : LR w cb c) :
    Calls Try.prog 48 #[makerL g mb, .pointer (some ⟨nb, 0, none⟩), .pointer (some ⟨cb, 0, none⟩)] w (LpR (runZ room l (k : Int) c) n0 g b mb room w) := by
  have hn0 := hin.ix.hB
  have hal := (Below.refl w.heap.size w).alloc (Nat.le_refl _) (.cells #[.pointer (some ⟨g, 0, none⟩), .map (some mb)] 76)
  have hM : ML (w.alloc (.cells #[.pointer (some ⟨g, 0, none⟩), .map (some mb)] 76)) w.heap.size g mb := heap_new rfl
  have hI := hin.below hal
  have hrun := run_any hI hk he c hc
  have HA := Lib.hid (BelL.of hal hn0)
  have m0 := hM.c0
  have m1 := hM.c1
  have x0 := (hnb.below hal).c
  have x1 := (hcb.below hal).c
  clear hal hM hin hI hk
  generalize runZ room l (k : Int) c = z at *
  obtain ⟨zl, zn, ze⟩ := z
  go_enter Try.func48, Try.ntmps48
  go_wp2_with fail
  generalize (w.alloc (.cells #[.pointer (some ⟨g, 0, none⟩), .map (some mb)] 76)) = w0 at *
  refine hrun.mono ?_
  rintro r w2 ⟨rfl, hl2, hb2⟩
  have HB2 := Lib.hid (HA.out.trans hb2)
  have HL2 := Lib.hid hl2
  clear hrun hl2 hb2 m0 m1
  go_wp2_with fail
  go_ret2
  exact ⟨rfl, HL2.out, HB2.out⟩
def leap9 (l : List Nd) (room n x : Int) : Zn := grownL l room n (leapZ room l n x)
set_option maxHeartbeats 8000000 in
theorem leap9_any (A : Option Addr) (l : List Nd) (c : Nat) (room : Int) (n x : Int) (w : World) (hx : I64 x) (hR : RdN w w.heap.size A l) (hl : l.length ≤ 1000000) (hc : l.length ≤ c) (hlv : ∀ i, i < l.length → -9223372036854775808 ≤ (l.getD i deadN).1 ∧ (l.getD i deadN).1 ≤ 9223372036854775807) :
    Calls Try.prog 15 #[storeV A l.length c room, .int .i64 n, .int .i64 x] w (PutR (leap9 l room n x) room w) := by
  have hal0 := Below.refl w.heap.size w
  have hal1 := hal0.alloc hal0.size (.cells #[.slice A l.length c, .int .i64 room] 26)
  have hz1 : (w.alloc (.cells #[.slice A l.length c, .int .i64 room] 26)).heap.size = w.heap.size + 1 := by simp
  have hal2 := hal1.alloc hal1.size (.cells #[.int .i64 n] 3)
  have hz2 : ((w.alloc (.cells #[.slice A l.length c, .int .i64 room] 26)).alloc (.cells #[.int .i64 n] 3)).heap.size = w.heap.size + 1 + 1 := by simp
  have hal3 := hal2.alloc hal2.size (.cells #[.int .i64 x] 3)
  have hz3 : (((w.alloc (.cells #[.slice A l.length c, .int .i64 room] 26)).alloc (.cells #[.int .i64 n] 3)).alloc (.cells #[.int .i64 x] 3)).heap.size = w.heap.size + 1 + 1 + 1 := by simp
  have hal4 := hal3.alloc hal3.size (.cells #[.slice none 0 0, .int .i64 0] 26)
  have HH0 : WrAt w ((((w.alloc (.cells #[.slice A l.length c, .int .i64 room] 26)).alloc (.cells #[.int .i64 n] 3)).alloc (.cells #[.int .i64 x] 3)).alloc (.cells #[.slice none 0 0, .int .i64 0] 26)) A l.length c room (w.heap.size + 1 + 1 + 1) := ⟨heap_old (heap_old (heap_old (heap_new rfl))), heap_new hz3, hal4, by omega⟩
  have hs1 : LR ((((w.alloc (.cells #[.slice A l.length c, .int .i64 room] 26)).alloc (.cells #[.int .i64 n] 3)).alloc (.cells #[.int .i64 x] 3)).alloc (.cells #[.slice none 0 0, .int .i64 0] 26)) (w.heap.size + 1) n := heap_old (heap_old (heap_new hz1))
  have hs2 : LR ((((w.alloc (.cells #[.slice A l.length c, .int .i64 room] 26)).alloc (.cells #[.int .i64 n] 3)).alloc (.cells #[.int .i64 x] 3)).alloc (.cells #[.slice none 0 0, .int .i64 0] 26)) (w.heap.size + 1 + 1) x := heap_old (heap_new hz2)
  have hmf : ∀ (fn : Fn) (first cap : Array Value) (W : World), (Instr.makeFunc fn first cap).run Try.prog W = .ok (.func fn first cap) W := fun _ _ _ _ => rfl
  have hgr := madeL_2 40 (enters_of Try.func40 (by kernel_rfl) rfl) (.pointer (some ⟨w.heap.size + 1 + 1, 0, none⟩)) (.pointer (some ⟨w.heap.size + 1, 0, none⟩)) n (leapZ room l n x) A l c room ((((w.alloc (.cells #[.slice A l.length c, .int .i64 room] 26)).alloc (.cells #[.int .i64 n] 3)).alloc (.cells #[.int .i64 x] 3)).alloc (.cells #[.slice none 0 0, .int .i64 0] 26)) ((hR.below HH0.bel (Nat.le_refl _)).more HH0.bel.size) hl hc hlv
    (fun hr h2 g b mb W hbW hin => by
      obtain ⟨k, e, rfl, hk, he⟩ := is_of_lev (right_iff.1 hr) h2
      have b1 : LR W (w.heap.size + 1) (k : Int) := (hbW.block _ (lt_heap6 hs1)).trans hs1
      have b2 : LR W (w.heap.size + 1 + 1) x := (hbW.block _ (lt_heap6 hs2)).trans hs2
      exact leapC_any hin hk he x hx b2 b1)
  rw [show grownL l room n (leapZ room l n x) = leap9 l room n x from rfl] at hgr
  unfold storeV PutR at hgr
  unfold storeV
  have HH := Lib.hid HH0
  have s0 := HH0.s0
  have s1 := HH0.s1
  have x1 := hs1.c
  have x2 := hs2.c
  clear HH0 hR hal0 hal1 hal2 hal3 hal4 hz1 hz2 hz3 hs1 hs2 hlv
  generalize leap9 l room n x = z at *
  obtain ⟨m, q, ee⟩ := z
  simp only at hgr
  go_enter Try.func15, Try.ntmps15
  go_wp2_with fail
  refine hgr.mono ?_
  rintro e w1 ⟨v, rfl, ⟨B, d, rfl, hd, hN⟩, hb1⟩
  have H1 := HH.out.below hb1
  have r0 := H1.r0
  have r1 := H1.r1
  have f0 := H1.free 0
  have f1 := H1.free 1
  have ht := Lib.hid (H1.told (.slice B m.length d) (.int .i64 room))
  have hrd := Lib.hid (rdN_told (u := .slice B m.length d) (v := .int .i64 room) hN H1.res)
  clear hgr hb1 H1 hN s0 s1 x1 x2
  go_wp2
  refine bodyPost_ret (results_cell3 rfl _ _ _ _ _ _ _ rfl ht.out.1 Try.underlying26 rfl (by kernel_rfl)) rfl ?_
  exact ⟨_, rfl, ⟨B, d, rfl, hd, hrd.out.more (by simp [World.setCell])⟩, ht.out.2⟩
def trim9 (l : List Nd) (room n : Int) : Zn := grownL l room n (trimZ room l n)
set_option maxHeartbeats 8000000 in
theorem trim9_any (A : Option Addr) (l : List Nd) (c : Nat) (room : Int) (n : Int) (w : World) (hR : RdN w w.heap.size A l) (hl : l.length ≤ 1000000) (hc : l.length ≤ c) (hlv : ∀ i, i < l.length → -9223372036854775808 ≤ (l.getD i deadN).1 ∧ (l.getD i deadN).1 ≤ 9223372036854775807) :
    Calls Try.prog 18 #[storeV A l.length c room, .int .i64 n] w (PutR (trim9 l room n) room w) := by
  have hal0 := Below.refl w.heap.size w
  have hal1 := hal0.alloc hal0.size (.cells #[.slice A l.length c, .int .i64 room] 26)
  have hz1 : (w.alloc (.cells #[.slice A l.length c, .int .i64 room] 26)).heap.size = w.heap.size + 1 := by simp
  have hal2 := hal1.alloc hal1.size (.cells #[.int .i64 n] 3)
  have hz2 : ((w.alloc (.cells #[.slice A l.length c, .int .i64 room] 26)).alloc (.cells #[.int .i64 n] 3)).heap.size = w.heap.size + 1 + 1 := by simp
  have hal4 := hal2.alloc hal2.size (.cells #[.slice none 0 0, .int .i64 0] 26)
  have HH0 : WrAt w (((w.alloc (.cells #[.slice A l.length c, .int .i64 room] 26)).alloc (.cells #[.int .i64 n] 3)).alloc (.cells #[.slice none 0 0, .int .i64 0] 26)) A l.length c room (w.heap.size + 1 + 1) := ⟨heap_old (heap_old (heap_new rfl)), heap_new hz2, hal4, by omega⟩
  have hs1 : LR (((w.alloc (.cells #[.slice A l.length c, .int .i64 room] 26)).alloc (.cells #[.int .i64 n] 3)).alloc (.cells #[.slice none 0 0, .int .i64 0] 26)) (w.heap.size + 1) n := heap_old (heap_new hz1)
  have hmf : ∀ (fn : Fn) (first cap : Array Value) (W : World), (Instr.makeFunc fn first cap).run Try.prog W = .ok (.func fn first cap) W := fun _ _ _ _ => rfl
  have hgr := madeL_1 45 (enters_of Try.func45 (by kernel_rfl) rfl) (.pointer (some ⟨w.heap.size + 1, 0, none⟩)) n (trimZ room l n) A l c room (((w.alloc (.cells #[.slice A l.length c, .int .i64 room] 26)).alloc (.cells #[.int .i64 n] 3)).alloc (.cells #[.slice none 0 0, .int .i64 0] 26)) ((hR.below HH0.bel (Nat.le_refl _)).more HH0.bel.size) hl hc hlv
    (fun hr h2 g b mb W hbW hin => by
      obtain ⟨k, e, rfl, hk, he⟩ := is_of_lev (right_iff.1 hr) h2
      have b1 : LR W (w.heap.size + 1) (k : Int) := (hbW.block _ (lt_heap6 hs1)).trans hs1
      exact trimC_any hin hk he b1)
  rw [show grownL l room n (trimZ room l n) = trim9 l room n from rfl] at hgr
  unfold storeV PutR at hgr
  unfold storeV
  have HH := Lib.hid HH0
  have s0 := HH0.s0
  have s1 := HH0.s1
  have x1 := hs1.c
  clear HH0 hR hal0 hal1 hal2 hal4 hz1 hz2 hs1 hlv
  generalize trim9 l room n = z at *
  obtain ⟨m, q, ee⟩ := z
  simp only at hgr
  go_enter Try.func18, Try.ntmps18
  go_wp2_with fail
  refine hgr.mono ?_
  rintro e w1 ⟨v, rfl, ⟨B, d, rfl, hd, hN⟩, hb1⟩
  have H1 := HH.out.below hb1
  have r0 := H1.r0
  have r1 := H1.r1
  have f0 := H1.free 0
  have f1 := H1.free 1
  have ht := Lib.hid (H1.told (.slice B m.length d) (.int .i64 room))
  have hrd := Lib.hid (rdN_told (u := .slice B m.length d) (v := .int .i64 room) hN H1.res)
  clear hgr hb1 H1 hN s0 s1 x1
  go_wp2
  refine bodyPost_ret (results_cell3 rfl _ _ _ _ _ _ _ rfl ht.out.1 Try.underlying26 rfl (by kernel_rfl)) rfl ?_
  exact ⟨_, rfl, ⟨B, d, rfl, hd, hrd.out.more (by simp [World.setCell])⟩, ht.out.2⟩
def run9 (l : List Nd) (room n x : Int) : Zn := grownL l room n (runZ room l n x)
set_option maxHeartbeats 8000000 in
theorem run9_any (A : Option Addr) (l : List Nd) (c : Nat) (room : Int) (n x : Int) (w : World) (hx : I64 x) (hR : RdN w w.heap.size A l) (hl : l.length ≤ 1000000) (hc : l.length ≤ c) (hlv : ∀ i, i < l.length → -9223372036854775808 ≤ (l.getD i deadN).1 ∧ (l.getD i deadN).1 ≤ 9223372036854775807) :
    Calls Try.prog 20 #[storeV A l.length c room, .int .i64 n, .int .i64 x] w (PutR (run9 l room n x) room w) := by
  have hal0 := Below.refl w.heap.size w
  have hal1 := hal0.alloc hal0.size (.cells #[.slice A l.length c, .int .i64 room] 26)
  have hz1 : (w.alloc (.cells #[.slice A l.length c, .int .i64 room] 26)).heap.size = w.heap.size + 1 := by simp
  have hal2 := hal1.alloc hal1.size (.cells #[.int .i64 n] 3)
  have hz2 : ((w.alloc (.cells #[.slice A l.length c, .int .i64 room] 26)).alloc (.cells #[.int .i64 n] 3)).heap.size = w.heap.size + 1 + 1 := by simp
  have hal3 := hal2.alloc hal2.size (.cells #[.int .i64 x] 3)
  have hz3 : (((w.alloc (.cells #[.slice A l.length c, .int .i64 room] 26)).alloc (.cells #[.int .i64 n] 3)).alloc (.cells #[.int .i64 x] 3)).heap.size = w.heap.size + 1 + 1 + 1 := by simp
  have hal4 := hal3.alloc hal3.size (.cells #[.slice none 0 0, .int .i64 0] 26)
  have HH0 : WrAt w ((((w.alloc (.cells #[.slice A l.length c, .int .i64 room] 26)).alloc (.cells #[.int .i64 n] 3)).alloc (.cells #[.int .i64 x] 3)).alloc (.cells #[.slice none 0 0, .int .i64 0] 26)) A l.length c room (w.heap.size + 1 + 1 + 1) := ⟨heap_old (heap_old (heap_old (heap_new rfl))), heap_new hz3, hal4, by omega⟩
  have hs1 : LR ((((w.alloc (.cells #[.slice A l.length c, .int .i64 room] 26)).alloc (.cells #[.int .i64 n] 3)).alloc (.cells #[.int .i64 x] 3)).alloc (.cells #[.slice none 0 0, .int .i64 0] 26)) (w.heap.size + 1) n := heap_old (heap_old (heap_new hz1))
  have hs2 : LR ((((w.alloc (.cells #[.slice A l.length c, .int .i64 room] 26)).alloc (.cells #[.int .i64 n] 3)).alloc (.cells #[.int .i64 x] 3)).alloc (.cells #[.slice none 0 0, .int .i64 0] 26)) (w.heap.size + 1 + 1) x := heap_old (heap_new hz2)
  have hmf : ∀ (fn : Fn) (first cap : Array Value) (W : World), (Instr.makeFunc fn first cap).run Try.prog W = .ok (.func fn first cap) W := fun _ _ _ _ => rfl
  have hgr := madeL_2 48 (enters_of Try.func48 (by kernel_rfl) rfl) (.pointer (some ⟨w.heap.size + 1, 0, none⟩)) (.pointer (some ⟨w.heap.size + 1 + 1, 0, none⟩)) n (runZ room l n x) A l c room ((((w.alloc (.cells #[.slice A l.length c, .int .i64 room] 26)).alloc (.cells #[.int .i64 n] 3)).alloc (.cells #[.int .i64 x] 3)).alloc (.cells #[.slice none 0 0, .int .i64 0] 26)) ((hR.below HH0.bel (Nat.le_refl _)).more HH0.bel.size) hl hc hlv
    (fun hr h2 g b mb W hbW hin => by
      obtain ⟨k, e, rfl, hk, he⟩ := is_of_lev (right_iff.1 hr) h2
      have b1 : LR W (w.heap.size + 1) (k : Int) := (hbW.block _ (lt_heap6 hs1)).trans hs1
      have b2 : LR W (w.heap.size + 1 + 1) x := (hbW.block _ (lt_heap6 hs2)).trans hs2
      exact runC_any hin hk he x hx b1 b2)
  rw [show grownL l room n (runZ room l n x) = run9 l room n x from rfl] at hgr
  unfold storeV PutR at hgr
  unfold storeV
  have HH := Lib.hid HH0
  have s0 := HH0.s0
  have s1 := HH0.s1
  have x1 := hs1.c
  have x2 := hs2.c
  clear HH0 hR hal0 hal1 hal2 hal3 hal4 hz1 hz2 hz3 hs1 hs2 hlv
  generalize run9 l room n x = z at *
  obtain ⟨m, q, ee⟩ := z
  simp only at hgr
  go_enter Try.func20, Try.ntmps20
  go_wp2_with fail
  refine hgr.mono ?_
  rintro e w1 ⟨v, rfl, ⟨B, d, rfl, hd, hN⟩, hb1⟩
  have H1 := HH.out.below hb1
  have r0 := H1.r0
  have r1 := H1.r1
  have f0 := H1.free 0
  have f1 := H1.free 1
  have ht := Lib.hid (H1.told (.slice B m.length d) (.int .i64 room))
  have hrd := Lib.hid (rdN_told (u := .slice B m.length d) (v := .int .i64 room) hN H1.res)
  clear hgr hb1 H1 hN s0 s1 x1 x2
  go_wp2
  refine bodyPost_ret (results_cell3 rfl _ _ _ _ _ _ _ rfl ht.out.1 Try.underlying26 rfl (by kernel_rfl)) rfl ?_
  exact ⟨_, rfl, ⟨B, d, rfl, hd, hrd.out.more (by simp [World.setCell])⟩, ht.out.2⟩
end Go.Proofs.Ytgjibpgfcbdpgaa
namespace Go.Proofs.Ytgjibpgfcbdpgaa
set_option maxRecDepth 100000
set_option linter.unusedVariables false
set_option linter.unusedSimpArgs false

abbrev Bx := Int × Int × Int × Int
end Go.Proofs.Ytgjibpgfcbdpgaa
namespace Go.Proofs.Ytgjibpgfcbdpgaa
set_option maxRecDepth 100000
set_option linter.unusedVariables false
set_option linter.unusedSimpArgs false
open Go.RowKit Go.Sort

/-- a row of cells -/
def RowV (w : World) (q T : Nat) (xs : List Value) : Prop := w.heap[q]? = some (.cells xs.toArray T (0, 0))
section
variable {w w' : World} {q T : Nat} {xs : List Value}
theorem RowV.lt (h : RowV w q T xs) : q < w.heap.size := lt_heap6 h
theorem RowV.cell (h : RowV w q T xs) {i : Nat} {v : Value} (hi : xs[i]? = some v) : w.cell? ⟨q, i, none⟩ = some v := by
  rw [Lib.cell_of_heap h]
  simpa using hi
theorem RowV.free (h : RowV w q T xs) (i : Nat) : w.frozen? ⟨q, i, none⟩ = false := Lib.frozen_of_heap h i
theorem RowV.set (h : RowV w q T xs) (i : Nat) (u : Value) : RowV (w.setCell ⟨q, i, none⟩ u) q T (xs.set i u) := by
  unfold RowV at h ⊢
  simp [World.setCell, Array.getElem?_modify, h]
theorem RowV.other (h : RowV w q T xs) {p : Nat} (hne : q ≠ p) (i : Nat) (u : Value) : RowV (w.setCell ⟨p, i, none⟩ u) q T xs := by
  unfold RowV at h ⊢
  have hne' : p ≠ q := fun e => hne e.symm
  simp [World.setCell, Array.getElem?_modify, hne', h]
theorem RowV.below (h : RowV w q T xs) {B : Nat} (hb : Below B w w') (hB : q < B) : RowV w' q T xs := (hb.block _ hB).trans h
theorem RowV.now (h : RowV w q T xs) (hb : Below w.heap.size w w') : RowV w' q T xs := h.below hb h.lt
theorem RowV.drew (h : RowV w q T xs) : RowV w.drew q T xs := h
theorem RowV.made (w : World) (T : Nat) (xs : List Value) : RowV (w.alloc (.cells xs.toArray T)) w.heap.size T xs := heap_alloc_new w _
end
def boolsL (n : Nat) (f : Nat → Bool) : List Value := (List.range n).map fun i => .bool (f i)
def intsL (l : List Int) : List Value := l.map fun x => .int .i64 x
theorem intsL_set (l : List Int) (i : Nat) (x : Int) : (intsL l).set i (.int .i64 x) = intsL (l.set i x) := by
  unfold intsL
  rw [List.map_set]
/-- numbers told place by place: those below n by f, the others 0 -/
def numsL (n : Nat) (f : Nat → Int) : List Int := (List.range n).map f
theorem numsL_set (n i : Nat) (f : Nat → Int) (x : Int) : (numsL n f).set i x = numsL n (fun k => if k = i then x else f k) := by
  refine List.ext_getElem? fun k => ?_
  rw [List.getElem?_set]
  unfold numsL
  by_cases hk : k < n
  · rw [List.getElem?_map, List.getElem?_map, List.getElem?_range hk]
    by_cases hik : i = k
    · rw [if_pos hik, if_pos (by simp; omega)]
      simp [hik]
    · rw [if_neg hik]
      have : ¬ k = i := fun e => hik e.symm
      simp [this]
  · have h1 : ∀ g : Nat → Int, ((List.range n).map g)[k]? = none := fun g => List.getElem?_eq_none (by simp; omega)
    rw [h1, h1]
    split
    · rw [if_neg (by simp; omega)]
    · rfl
end Go.Proofs.Ytgjibpgfcbdpgaa
namespace Go.Proofs.Ytgjibpgfcbdpgaa
set_option maxRecDepth 100000
set_option linter.unusedVariables false
set_option linter.unusedSimpArgs false
open Go.RowKit Go.Sort Go.Shelf
attribute [local go_sem] Oper.semAt_some

/-- a node's place -/
abbrev Ind (l : List Nd) := { i : Nat // i < l.length }
/-- the last k places, from behind -/
def come (l : List Nd) (k : Nat) : List (Ind l) := (List.range k).filterMap fun j => if h : l.length - 1 - j < l.length then some ⟨l.length - 1 - j, h⟩ else none
/-- what lay below m, and block B, lies as it lay -/
def KpA (m B : Nat) (W W' : World) : Prop := ∀ k, (k < m ∨ k = B) → W'.heap[k]? = W.heap[k]?
theorem KpA.refl (m B : Nat) (W : World) : KpA m B W W := fun _ _ => rfl
theorem KpA.trans {m B : Nat} {W W' W'' : World} (h : KpA m B W W') (h' : KpA m B W' W'') : KpA m B W W'' := fun k hk => (h' k hk).trans (h k hk)
theorem KpA.nd {m B b o : Nat} {W W' : World} {x : Nd} (h : KpA m B W W') (hb : b < m) (hx : NdAt W b o x) : NdAt W' b o x := by
  have hc : ∀ i, W'.cell? ⟨b, i, none⟩ = W.cell? ⟨b, i, none⟩ := fun i => World.cell?_of_block (w := W) (h b (.inl hb))
  obtain ⟨h0, h1, h2, h3, h4, h5⟩ := hx
  exact ⟨(hc _).trans h0, (hc _).trans h1, (hc _).trans h2, (hc _).trans h3, (hc _).trans h4, (hc _).trans h5⟩

theorem KpA.setCell {m B : Nat} (W : World) {q i : Nat} (u : Value) (hm : m ≤ q) (hB : q ≠ B) : KpA m B W (W.setCell ⟨q, i, none⟩ u) := fun k hk => by
  have hne : q ≠ k := by rcases hk with h | h <;> omega
  simp [World.setCell, Array.getElem?_modify, hne]
theorem KpA.alloc {m B : Nat} (W : World) (o : Obj) (hm : m ≤ W.heap.size) (hB : B < W.heap.size) : KpA m B W (W.alloc o) := fun k hk => Lib.alloc_old _ _ _ (by omega)
/-! ### the flags -/
end Go.Proofs.Ytgjibpgfcbdpgaa
namespace Go.Proofs.Ytgjibpgfcbdpgaa
set_option maxRecDepth 100000
set_option linter.unusedVariables false
set_option linter.unusedSimpArgs false
open Go.RowKit Go.Sort

/-- where the nodes seen so far are in the new store -/
def toF (K : Nat → Bool) (n : Nat) : Nat → Int := fun i => if i < n ∧ K i = true then (cnt K i : Int) else 0
section
variable {l : List Nd} {room : Int} {R : List Int} {K : Nat → Bool}
end
/-- What is known at the head of the loop over nodes. -/
structure LvAt (w wr : World) (A : Option Addr) (l : List Nd) (c : Nat) (room : Int) (K : Nat → Bool) (o q t n : Nat) (v : Value) : Prop where
  head : EmpHead w wr A l.length c room
  flg : RowV wr q 4 (boolsL l.length K)
  tor : RowV wr t 3 (intsL (numsL l.length (toF K n)))
  out : wr.heap[o]? = some (.cells #[v, .int .i64 room] 26 (0, 0))
  own : OwnN wr (w.heap.size + 2) v (newTo l K n)
  lo : w.heap.size + 2 ≤ o ∧ w.heap.size + 2 ≤ q ∧ w.heap.size + 2 ≤ t
section
variable {w wr w' : World} {A : Option Addr} {l : List Nd} {c : Nat} {room : Int} {K : Nat → Bool} {o q t n : Nat} {v : Value}
theorem LvAt.below (h : LvAt w wr A l c room K o q t n v) (hb : Below wr.heap.size wr w') : LvAt w w' A l c room K o q t n v :=
  ⟨h.head.below hb, h.flg.now hb, h.tor.now hb, (hb.block _ (lt_heap6 h.out)).trans h.out, h.own.below hb, h.lo⟩
theorem LvAt.c0 (h : LvAt w wr A l c room K o q t n v) : wr.cell? ⟨o, 0, none⟩ = some v := by rw [Lib.cell_of_heap h.out]; rfl
theorem LvAt.c1 (h : LvAt w wr A l c room K o q t n v) : wr.cell? ⟨o, 1, none⟩ = some (.int .i64 room) := by rw [Lib.cell_of_heap h.out]; rfl
theorem LvAt.f0 (h : LvAt w wr A l c room K o q t n v) : wr.frozen? ⟨o, 0, none⟩ = false := Lib.frozen_of_heap h.out 0
theorem LvAt.ot (h : LvAt w wr A l c room K o q t n v) : o ≠ t := by
  intro e
  have h1 := h.out
  have h2 := h.tor
  unfold RowV at h2
  rw [e, h2] at h1
  injection h1 with h1
  injection h1 with _ h1 _
  exact absurd h1 (by decide)
theorem LvAt.qt (h : LvAt w wr A l c room K o q t n v) : q ≠ t := by
  intro e
  have h1 := h.flg
  have h2 := h.tor
  unfold RowV at h1 h2
  rw [e, h2] at h1
  injection h1 with h1
  injection h1 with _ h1 _
  exact absurd h1 (by decide)
theorem own_ne {B i T : Nat} {cs : Array Value} {m : List Nd} (ho : OwnN wr B v m) (hi : wr.heap[i]? = some (.cells cs T (0, 0))) (hT : T ≠ 35) : v.ownBlock ≠ some i := by
  intro e
  obtain ⟨_, _, cs', fz, hc⟩ := ownN_kind ho i e
  rw [hi] at hc
  injection hc with hc
  injection hc with _ hc _
  exact hT hc
/-- a node's place is told -/
theorem LvAt.told (h : LvAt w wr A l c room K o q t n v) (i : Nat) (x : Int) (f : Nat → Int) (hf : (fun k => if k = i then x else toF K n k) = f) :
    EmpHead w (wr.setCell ⟨t, i, none⟩ (.int .i64 x)) A l.length c room ∧ RowV (wr.setCell ⟨t, i, none⟩ (.int .i64 x)) q 4 (boolsL l.length K) ∧ RowV (wr.setCell ⟨t, i, none⟩ (.int .i64 x)) t 3 (intsL (numsL l.length f)) ∧ (wr.setCell ⟨t, i, none⟩ (.int .i64 x)).heap[o]? = some (.cells #[v, .int .i64 room] 26 (0, 0)) ∧ OwnN (wr.setCell ⟨t, i, none⟩ (.int .i64 x)) (w.heap.size + 2) v (newTo l K n) := by
  have hb := h.lo.2.2
  have hset := h.tor.set i (.int .i64 x)
  rw [intsL_set, numsL_set, hf] at hset
  have hk : ∀ p, p < t → (wr.setCell ⟨t, i, none⟩ (.int .i64 x)).heap[p]? = wr.heap[p]? := fun p hp => Below.heap_setCell _ _ _ _ (by show p ≠ t; omega)
  have htor : wr.heap[t]? = some (.cells (intsL (numsL l.length (toF K n))).toArray 3 (0, 0)) := h.tor
  refine ⟨⟨(hk _ (by omega)).trans h.head.store, (hk _ (by omega)).trans h.head.res, h.head.bel.setCell (by show w.heap.size ≤ t; omega) _⟩, h.flg.other h.qt _ _, hset, ?_, World.ownsRow.kept h.own (but_set i _) (.inr (own_ne h.own htor (by decide)))⟩
  rw [Below.heap_setCell _ _ _ _ (by show o ≠ t; exact h.ot)]
  exact h.out
theorem LvAt.pushed {w7 w8 : World} {v v' : Value} {x : Nd} {ob : Obj} {m : List Nd} (hhead : EmpHead w w7 A l.length c room) (hflg : RowV w7 q 4 (boolsL l.length K)) (htor : RowV w7 t 3 (intsL (numsL l.length (toF K (n + 1)))))
    (hout : w7.heap[o]? = some (.cells #[v, .int .i64 room] 26 (0, 0))) (hown : OwnN w7 (w.heap.size + 2) v m) (hlo : w.heap.size + 2 ≤ o ∧ w.heap.size + 2 ≤ q ∧ w.heap.size + 2 ≤ t)
    (hg : (w7.alloc ob).grownBy w8 v.ownBlock) (hbp : Below (w.heap.size + 2) w7 w8) (ho : OwnN w8 (w.heap.size + 2) v' (m ++ [x])) (hs : newTo l K (n + 1) = m ++ [x]) :
    LvAt w (w8.setCell ⟨o, 0, none⟩ v') A l c room K o q t (n + 1) v' ∧ w8.heap[o]? = some (.cells #[v, .int .i64 room] 26 (0, 0)) := by
  have hsz : (w7.alloc ob).heap.size = w7.heap.size + 1 := by simp
  have hkeep : ∀ {i T : Nat} {cs : Array Value}, w7.heap[i]? = some (.cells cs T (0, 0)) → T ≠ 35 → w8.heap[i]? = some (.cells cs T (0, 0)) := by
    intro i T cs hi hT
    rw [hg.block i (by have := lt_heap6 hi; omega) (fun e => own_ne hown hi hT e.symm), Lib.alloc_old _ _ _ (lt_heap6 hi)]
    exact hi
  have hout8 := hkeep hout (by decide)
  have hflg8 : RowV w8 q 4 (boolsL l.length K) := hkeep hflg (by decide)
  have htor8 : RowV w8 t 3 (intsL (numsL l.length (toF K (n + 1)))) := hkeep htor (by decide)
  have hoq : q ≠ o := by
    intro e
    have h1 := hflg8
    unfold RowV at h1
    rw [e, hout8] at h1
    injection h1 with h1
    injection h1 with _ h1 _
    exact absurd h1 (by decide)
  have hot : t ≠ o := by
    intro e
    have h1 := htor8
    unfold RowV at h1
    rw [e, hout8] at h1
    injection h1 with h1
    injection h1 with _ h1 _
    exact absurd h1 (by decide)
  have hk : ∀ p, p < o → (w8.setCell ⟨o, 0, none⟩ v').heap[p]? = w8.heap[p]? := fun p hp => Below.heap_setCell _ _ _ _ (by show p ≠ o; omega)
  refine ⟨⟨⟨?_, ?_, (hhead.bel.trans (hbp.mono (by omega))).setCell (by show w.heap.size ≤ o; omega) _⟩, hflg8.other hoq _ _, htor8.other hot _ _, ?_, ?_, hlo⟩, hout8⟩
  · rw [hk _ (by omega), hbp.block _ (by omega)]
    exact hhead.store
  · rw [hk _ (by omega), hbp.block _ (by omega)]
    exact hhead.res
  · simp [World.setCell, Array.getElem?_modify, hout8]
  · rw [hs]
    exact World.ownsRow.kept ho (but_set 0 _) (.inr (own_ne ho hout8 (by decide)))
end
end Go.Proofs.Ytgjibpgfcbdpgaa
namespace Go.Proofs.Ytgjibpgfcbdpgaa
set_option maxRecDepth 100000
set_option linter.unusedVariables false
set_option linter.unusedSimpArgs false
open Go.RowKit Go.Sort

/-- A store in a box. -/
structure StB (w : World) (b : Nat) (A : Option Addr) (l : List Nd) (c : Nat) (room : Int) : Prop where
  row : w.heap[b]? = some (.cells #[.slice A l.length c, .int .i64 room] 26 (0, 0))
  rd : NowN w A l
  cap : l.length ≤ c
section
variable {w w' : World} {b : Nat} {A : Option Addr} {l : List Nd} {c : Nat} {room : Int}
theorem StB.below (h : StB w b A l c room) (hb : Below w.heap.size w w') : StB w' b A l c room := ⟨(hb.block _ (lt_heap6 h.row)).trans h.row, h.rd.below hb, h.cap⟩
theorem StB.s0 (h : StB w b A l c room) : w.cell? ⟨b, 0, none⟩ = some (.slice A l.length c) := by rw [Lib.cell_of_heap h.row]; rfl
theorem StB.s1 (h : StB w b A l c room) : w.cell? ⟨b, 1, none⟩ = some (.int .i64 room) := by rw [Lib.cell_of_heap h.row]; rfl
theorem StB.f0 (h : StB w b A l c room) : w.frozen? ⟨b, 0, none⟩ = false := Lib.frozen_of_heap h.row 0
theorem StB.f1 (h : StB w b A l c room) : w.frozen? ⟨b, 1, none⟩ = false := Lib.frozen_of_heap h.row 1
theorem stB_new (hr : NowN w A l) (hc : l.length ≤ c) (room : Int) : StB (w.alloc (.cells #[.slice A l.length c, .int .i64 room] 26)) w.heap.size A l c room :=
  ⟨heap_alloc_new w _, hr.below ((Below.refl _ _).alloc (Nat.le_refl _) _), hc⟩
theorem StB.nd (h : StB w b A l c room) (hl : 0 < l.length) : ∃ q off, A = some ⟨q, off, none⟩ ∧ q < w.heap.size ∧ ∀ j, j < l.length → NdAt w q (off + j * 6) (l.getD j deadN) := h.rd.at_ hl
end
theorem putR_box {p : List Nd × Int × Int} {room : Int} {w : World} {e : Ending} {w' : World} (h : PutR p room w e w') : ∃ A c, e = .returned (.tuple #[.agg #[.slice A p.1.length c, .int .i64 room], .int .i64 p.2.1, .int .i64 p.2.2]) ∧ p.1.length ≤ c ∧ NowN w' A p.1 ∧ Below w.heap.size w w' := by
  obtain ⟨v, rfl, ⟨A, c, rfl, hc, hN⟩, hb⟩ := h
  exact ⟨A, c, rfl, hc, hN, hb⟩
end Go.Proofs.Ytgjibpgfcbdpgaa
namespace Go.Proofs.Ytgjibpgfcbdpgaa
set_option maxRecDepth 100000
set_option linter.unusedVariables false
set_option linter.unusedSimpArgs false
open Go.RowKit Go.Sort

theorem storeR_box7 {l : List Nd} {room : Int} {w : World} {e : Ending} {w' : World} (h : StoreR l room w e w') : ∃ A c, e = .returned (.agg #[.slice A l.length c, .int .i64 room]) ∧ l.length ≤ c ∧ NowN w' A l ∧ Below w.heap.size w w' := by
  obtain ⟨v, rfl, ⟨A, c, rfl, hc, hN⟩, hb⟩ := h
  exact ⟨A, c, rfl, hc, hN, hb⟩
end Go.Proofs.Ytgjibpgfcbdpgaa
namespace Go.Proofs.Ytgjibpgfcbdpgaa
set_option linter.unusedVariables false
set_option linter.unusedSimpArgs false
open Go.RowKit Go.Sort

/-- Two stores as they lie in boxes. -/
structure TwoAt (w wr : World) (A : Option Addr) (n c : Nat) (room : Int) (B : Option Addr) (m d : Nat) (ro : Int) : Prop where
  one : wr.heap[w.heap.size]? = some (.cells #[.slice A n c, .int .i64 room] 26 (0, 0))
  two : wr.heap[w.heap.size + 1]? = some (.cells #[.slice B m d, .int .i64 ro] 26 (0, 0))
  bel : Below w.heap.size w wr
section
variable {w wr w' : World} {A B : Option Addr} {n c m d : Nat} {room ro : Int}
theorem TwoAt.below (h : TwoAt w wr A n c room B m d ro) (hb : Below wr.heap.size wr w') : TwoAt w w' A n c room B m d ro :=
  ⟨(hb.block _ (lt_heap6 h.one)).trans h.one, (hb.block _ (lt_heap6 h.two)).trans h.two, Qt.more h.bel h.bel.size hb⟩
theorem TwoAt.a0 (h : TwoAt w wr A n c room B m d ro) : wr.cell? ⟨w.heap.size, 0, none⟩ = some (.slice A n c) := by rw [Lib.cell_of_heap h.one]; rfl
theorem TwoAt.a1 (h : TwoAt w wr A n c room B m d ro) : wr.cell? ⟨w.heap.size, 1, none⟩ = some (.int .i64 room) := by rw [Lib.cell_of_heap h.one]; rfl
theorem TwoAt.b0 (h : TwoAt w wr A n c room B m d ro) : wr.cell? ⟨w.heap.size + 1, 0, none⟩ = some (.slice B m d) := by rw [Lib.cell_of_heap h.two]; rfl
theorem TwoAt.b1 (h : TwoAt w wr A n c room B m d ro) : wr.cell? ⟨w.heap.size + 1, 1, none⟩ = some (.int .i64 ro) := by rw [Lib.cell_of_heap h.two]; rfl
end
end Go.Proofs.Ytgjibpgfcbdpgaa
namespace Go.Proofs.Ytgjibpgfcbdpgaa
set_option linter.unusedVariables false
set_option linter.unusedSimpArgs false
open Go.RowKit Go.Sort

def rd5 (r : Raw5) : Nat → Int
  | 0 => r.1
  | 1 => r.2.1
  | 2 => r.2.2.1
  | 3 => r.2.2.2.1
  | _ => r.2.2.2.2
def Fine5 (r : Raw5) : Prop := I64 r.1 ∧ I64 r.2.1 ∧ I64 r.2.2.1 ∧ I64 r.2.2.2.1 ∧ I64 r.2.2.2.2
theorem Fine5.at_ {r : Raw5} (h : Fine5 r) : ∀ i, I64 (rd5 r i) := by
  intro i
  match i with
  | 0 => exact h.1
  | 1 => exact h.2.1
  | 2 => exact h.2.2.1
  | 3 => exact h.2.2.2.1
  | n + 4 => exact h.2.2.2.2
/-- What is known within Kids. -/
structure KidHead (w wr : World) (A : Option Addr) (n c : Nat) (room : Int) (r : Raw5) : Prop where
  store : wr.heap[w.heap.size]? = some (.cells #[.slice A n c, .int .i64 room] 26 (0, 0))
  raw : wr.heap[w.heap.size + 1]? = some (.cells #[.int .i64 r.1, .int .i64 r.2.1, .int .i64 r.2.2.1, .int .i64 r.2.2.2.1, .int .i64 r.2.2.2.2] 69 (0, 0))
  res : wr.heap[w.heap.size + 2]? = some (.cells #[.int .i64 0, .int .i64 0, .int .i64 0, .int .i64 0] 33 (0, 0))
  bel : Below w.heap.size w wr
section
variable {w wr w' : World} {A : Option Addr} {n c : Nat} {room : Int} {r : Raw5}
theorem KidHead.size (h : KidHead w wr A n c room r) : w.heap.size + 3 ≤ wr.heap.size := lt_heap6 h.res
theorem KidHead.below (h : KidHead w wr A n c room r) (hb : Below (w.heap.size + 3) wr w') : KidHead w w' A n c room r :=
  ⟨(hb.block _ (by omega)).trans h.store, (hb.block _ (by omega)).trans h.raw, (hb.block _ (by omega)).trans h.res, h.bel.trans (hb.mono (by omega))⟩
theorem KidHead.s0 (h : KidHead w wr A n c room r) : wr.cell? ⟨w.heap.size, 0, none⟩ = some (.slice A n c) := by rw [Lib.cell_of_heap h.store]; rfl
end
end Go.Proofs.Ytgjibpgfcbdpgaa
namespace Go.Proofs.Ytgjibpgfcbdpgaa
set_option linter.unusedVariables false
set_option linter.unusedSimpArgs false
open Go.RowKit Go.Sort

def dead5 : Raw5 := (0, 0, 0, 0, 0)
/-- five numbers lie here -/
def R5At (w : World) (b o : Nat) (r : Raw5) : Prop := w.cell? ⟨b, o, none⟩ = some (.int .i64 r.1) ∧ w.cell? ⟨b, o + 1, none⟩ = some (.int .i64 r.2.1) ∧ w.cell? ⟨b, o + 2, none⟩ = some (.int .i64 r.2.2.1) ∧ w.cell? ⟨b, o + 3, none⟩ = some (.int .i64 r.2.2.2.1) ∧ w.cell? ⟨b, o + 4, none⟩ = some (.int .i64 r.2.2.2.2)
theorem R5At.below {w w' : World} {b o B : Nat} {r : Raw5} (h : R5At w b o r) (hb : Below B w w') (hx : b < B) : R5At w' b o r := by
  obtain ⟨h0, h1, h2, h3, h4⟩ := h
  exact ⟨(hb.cell (p := ⟨b, o, none⟩) hx).trans h0, (hb.cell (p := ⟨b, o + 1, none⟩) hx).trans h1, (hb.cell (p := ⟨b, o + 2, none⟩) hx).trans h2, (hb.cell (p := ⟨b, o + 3, none⟩) hx).trans h3, (hb.cell (p := ⟨b, o + 4, none⟩) hx).trans h4⟩
/-- The slice at A reads as raw numbers, five by five. -/
def RdR (w : World) (B : Nat) (A : Option Addr) (l : List Raw5) : Prop :=
  ∀ j, j < l.length → ∃ b off, A = some ⟨b, off, none⟩ ∧ b < B ∧ R5At w b (off + j * 5) (l.getD j dead5)
theorem RdR.below {w w' : World} {B B' : Nat} {A : Option Addr} {l : List Raw5} (h : RdR w B A l) (hb : Below B' w w') (hB : B ≤ B') : RdR w' B A l := fun j hj => by
  obtain ⟨b, off, e, hlt, h0⟩ := h j hj
  exact ⟨b, off, e, hlt, h0.below hb (Nat.lt_of_lt_of_le hlt hB)⟩
/-- What is known within Store's loop. -/
structure StAt (w wr : World) (g : Nat) (R : Int) (m : List Nd) (B : Option Addr) (d : Nat) : Prop where
  res : wr.heap[w.heap.size]? = some (.cells #[.slice none 0 0, .int .i64 0] 26 (0, 0))
  row : wr.heap[g]? = some (.cells #[.slice B m.length d, .int .i64 R] 26 (0, 0))
  rd : RdN wr wr.heap.size B m
  cap : m.length ≤ d
  bel : Below w.heap.size w wr
  lo : w.heap.size + 1 ≤ g
theorem StAt.below {w wr w' : World} {g : Nat} {R : Int} {m : List Nd} {B : Option Addr} {d : Nat} (h : StAt w wr g R m B d) (hb : Below wr.heap.size wr w') : StAt w w' g R m B d :=
  ⟨(hb.block _ (lt_heap6 h.res)).trans h.res, (hb.block _ (lt_heap6 h.row)).trans h.row, (h.rd.below hb (Nat.le_refl _)).more hb.size, h.cap, Qt.more h.bel h.bel.size hb, h.lo⟩
/-- another store is told in the box -/
theorem StAt.put {w wr : World} {g : Nat} {R : Int} {m l : List Nd} {B A : Option Addr} {d c : Nat} (h : StAt w wr g R m B d) (hR : RdN wr wr.heap.size A l) (hc : l.length ≤ c) :
    StAt w ((wr.setCell ⟨g, 0, none⟩ (.slice A l.length c)).setCell ⟨g, 1, none⟩ (.int .i64 R)) g R l A c := by
  have hlo := h.lo
  have hk : ∀ q, q < g → ((wr.setCell ⟨g, 0, none⟩ (.slice A l.length c)).setCell ⟨g, 1, none⟩ (.int .i64 R)).heap[q]? = wr.heap[q]? := fun q hq => by
    rw [Below.heap_setCell _ _ _ _ (by simp; omega), Below.heap_setCell _ _ _ _ (by simp; omega)]
  exact ⟨(hk _ (by omega)).trans h.res, set_row h.row, (rdN_told hR h.row).more (by simp [World.setCell]), hc, (h.bel.setCell (by show _ ≤ g; omega) _).setCell (by show _ ≤ g; omega) _, hlo⟩

end Go.Proofs.Ytgjibpgfcbdpgaa
namespace Go.Proofs.Ytgjibpgfcbdpgaa
set_option maxRecDepth 100000
set_option linter.unusedVariables false
set_option linter.unusedSimpArgs false
open Go.RowKit Go.Sort

theorem storeR_box {l : List Nd} {room : Int} {w : World} {e : Ending} {w' : World} (h : StoreR l room w e w') : ∃ A c, e = .returned (.agg #[.slice A l.length c, .int .i64 room]) ∧ l.length ≤ c ∧ NowN w' A l ∧ Below w.heap.size w w' := by
  obtain ⟨v, rfl, ⟨A, c, rfl, hc, hN⟩, hb⟩ := h
  exact ⟨A, c, rfl, hc, hN, hb⟩
theorem RdR.more {w : World} {B B' : Nat} {A : Option Addr} {l : List Raw5} (h : RdR w B A l) (hB : B ≤ B') : RdR w B' A l := fun j hj => by
  obtain ⟨b, off, e, hlt, h0⟩ := h j hj
  exact ⟨b, off, e, Nat.lt_of_lt_of_le hlt hB, h0⟩
theorem stB_put {w : World} {b : Nat} {A : Option Addr} {l : List Nd} {c : Nat} {room r : Int} {v : Value} (h : w.heap[b]? = some (.cells #[v, .int .i64 r] 26 (0, 0))) (hN : NowN w A l) (hc : l.length ≤ c) :
    StB ((w.setCell ⟨b, 0, none⟩ (.slice A l.length c)).setCell ⟨b, 1, none⟩ (.int .i64 room)) b A l c room :=
  ⟨by simp [World.setCell, Array.getElem?_modify, h], (rdN_told hN h).more (by simp [World.setCell]), hc⟩
end Go.Proofs.Ytgjibpgfcbdpgaa
namespace Go.Proofs.Ytgjibpgfcbdpgaa
set_option maxRecDepth 100000
set_option linter.unusedVariables false
set_option linter.unusedSimpArgs false
open Go.RowKit Go.Sort

theorem lev_bd {l : List Nd} {room : Int} (h : Right6 l room) : ∀ i, i < l.length → -9223372036854775808 ≤ (l.getD i deadN).1 ∧ (l.getD i deadN).1 ≤ 9223372036854775807 := fun i hi => by
  by_cases h2 : 2 ≤ i
  · have hf := fits_iff.1 (h.fits i h2 hi)
    have h3 := hf.lo
    have h4 := hf.hi
    omega
  · have := (level_zero h hi).2 (by omega)
    omega
theorem raw_set (raw : List (Int × Int)) : Cel.rightB (Cel.rawSet raw) = true ∧ (Cel.rawSet raw).length ≤ 60 ∧ ∀ e, 3 ≤ e → ∀ s ∈ Cel.rawSet raw, insideB e s = true := by
  have hm : ∀ s ∈ Cel.rawSet raw, -8 ≤ s.1 ∧ s.1 ≤ 7 ∧ -8 ≤ s.2 ∧ s.2 ≤ 7 := fun s hs => Cel.rawTo_bd ((Cel.mem_setL _ _).1 hs)
  have hl : (Cel.rawSet raw).length ≤ 60 := Nat.le_trans (Cel.length_setL _) (Cel.length_rawTo raw 60)
  refine ⟨(Cel.rightB_iff _).2 ⟨by omega, fun s hs => ?_, Cel.rises_setL _⟩, hl, fun e he s hs => ?_⟩
  · have := hm s hs
    unfold Cel.inB
    exact decide_eq_true (by omega)
  · have := hm s hs
    have hp : (8 : Int) ≤ 2 ^ e := by
      obtain ⟨d, rfl⟩ : ∃ d, e = 3 + d := ⟨e - 3, by omega⟩
      rw [Int.pow_add]
      have := pow_pos7 d
      generalize (2 : Int) ^ d = P at *
      show 8 ≤ 8 * P
      omega
    unfold insideB
    exact decide_eq_true (by omega)
end Go.Proofs.Ytgjibpgfcbdpgaa
namespace Go.Proofs.Ytgjibpgfcbdpgaa.Cel
set_option linter.unusedVariables false
set_option linter.unusedSimpArgs false
open Go.RowKit Go.Sort

theorem refIn_yes (p : Int × Int) (h : inB p = true) (w : World) : Calls Try.prog 52 #[.agg #[.int .i64 p.1, .int .i64 p.2]] w fun e w' => e = .returned (.bool true) ∧ Below w.heap.size w w' := by
  have := in_any p w; rw [h] at this; exact this
theorem refIn_no (p : Int × Int) (h : inB p = false) (w : World) : Calls Try.prog 52 #[.agg #[.int .i64 p.1, .int .i64 p.2]] w fun e w' => e = .returned (.bool false) ∧ Below w.heap.size w w' := by
  have := in_any p w; rw [h] at this; exact this

set_option maxHeartbeats 1000000 in
set_option maxRecDepth 100000 in
theorem refRight_any (A : Option Addr) (l : List (Int × Int)) (c : Nat) (w : World) (hR : Rd w w.heap.size A l) (hl : l.length ≤ 1000000) (hc : l.length ≤ c) :
    Calls Try.prog 55 #[.slice A l.length c] w fun e w' => e = .returned (.bool (rightB l)) ∧ Below w.heap.size w w' := by
  generalize hr : rightB l = r
  have HR := Lib.hid hr
  clear hr
  go_enter Try.func55, Try.ntmps55
  go_wp2
  go_loopw [3] (fun i wr => ∃ k : Nat, k ≤ l.length ∧ i = .int .i64 k ∧ Hid (∀ j, j < k → okAt l j = true) ∧ Below w.heap.size w wr) (fun i _ => l.length - (intOf i).toNat)
  case atStart => exact ⟨0, Nat.zero_le _, rfl, fun j hj => absurd hj (Nat.not_lt_zero j), Below.refl _ _⟩
  case round =>
    obtain ⟨k, hk, rfl, HK, hb⟩ := hrel
    by_cases hlt : k < l.length
    · have hltz : (k : Int) < (l.length : Int) := by omega
      obtain ⟨b, off, rfl, hbB, hcell⟩ := hR.at_ (by omega)
      obtain ⟨⟨x, y⟩, hxy⟩ : ∃ p, p = l.getD k (0, 0) := ⟨_, rfl⟩
      have a0 := (hcell k hlt).1
      have a1 := (hcell k hlt).2
      rw [← hxy] at a0 a1
      simp only at a0 a1
      have k0 := Qt.cell_in (Qt.keep hb a0)
      have k1 := Qt.cell_in (Qt.keep hb a1)
      have HXY := Lib.hid hxy
      clear hxy a0 a1
      by_cases hin : inB (x, y) = true
      · rcases Nat.eq_zero_or_pos k with hk0 | hk0
        · clear hcell
          have hkd : decide (0 < k) = false := by simp; omega
          have hkd2 : decide ((0 : Int) < (k : Int)) = false := by simp; omega
          have HOK : Hid (okAt l k = true) := by show okAt l k = true; unfold okAt; rw [← HXY.out, hin, hk0]; rfl
          clear hk0
          go_wp2
          refine Qt.below_all (by kernel_rfl) (by kernel_rfl) ?_
          repeat (go_big_quiet_step (first | (go_at_call 52; exact Qt.at_call (refIn_yes (x, y) hin))))
          refine wpQuiet_nil ?_
          intro w1 hb1
          go_wp2
          go_roundw
          case measure => simp [intOf]; omega
          case rel =>
            refine ⟨k + 1, by omega, by go_num, (show Hid _ from fun j hj => ?_), Qt.more hb hb.size hb1⟩
            by_cases hjk : j = k
            · subst hjk; exact HOK.out
            · exact HK.out j (by omega)
        · obtain ⟨kp, rfl⟩ : ∃ kp, k = kp + 1 := ⟨k - 1, by omega⟩
          obtain ⟨⟨px, py⟩, hp⟩ : ∃ p, p = l.getD kp (0, 0) := ⟨_, rfl⟩
          have p0 := (hcell kp (by omega)).1
          have p1 := (hcell kp (by omega)).2
          rw [← hp] at p0 p1
          simp only at p0 p1
          have k2 := Qt.cell_in (Qt.keep hb p0)
          have k3 := Qt.cell_in (Qt.keep hb p1)
          have HP := Lib.hid hp
          clear hp hcell p0 p1
          cases hcm : lessB (px, py) (x, y)
          · have HNO : Hid (rightB l = false) := rightB_no hlt (by
              unfold okAt
              rw [← HXY.out, hin, Nat.add_sub_cancel, ← HP.out]
              have : ¬ cmpP (px, py) (x, y) < 0 := by rw [cmpP_neg, hcm]; exact Bool.false_ne_true
              simpa using this)
            go_wp2
            refine Qt.below_all (by kernel_rfl) (by kernel_rfl) ?_
            repeat (go_big_quiet_step (first | (go_at_call 52; exact Qt.at_call (refIn_yes (x, y) hin)) | (go_at_call 54; exact Qt.at_call (less_no (px, py) (x, y) hcm))))
            refine wpQuiet_nil ?_
            intro w1 hb1
            go_wp2
            go_ret
            exact ⟨by rw [← HR.out, HNO.out]; rfl, Qt.more hb hb.size hb1⟩
          · have HOK : Hid (okAt l (kp + 1) = true) := by
              show okAt l (kp + 1) = true
              unfold okAt
              rw [← HXY.out, hin, Nat.add_sub_cancel, ← HP.out]
              have : cmpP (px, py) (x, y) < 0 := by rw [cmpP_neg, hcm]
              simpa using this
            go_wp2
            refine Qt.below_all (by kernel_rfl) (by kernel_rfl) ?_
            repeat (go_big_quiet_step (first | (go_at_call 52; exact Qt.at_call (refIn_yes (x, y) hin)) | (go_at_call 54; exact Qt.at_call (less_yes (px, py) (x, y) hcm))))
            refine wpQuiet_nil ?_
            intro w1 hb1
            go_wp2
            go_roundw
            case measure => simp [intOf]; omega
            case rel =>
              refine ⟨kp + 1 + 1, by omega, by go_num, (show Hid _ from fun j hj => ?_), Qt.more hb hb.size hb1⟩
              by_cases hjk : j = kp + 1
              · subst hjk; exact HOK.out
              · exact HK.out j (by omega)
      · have hin' : inB (x, y) = false := by simpa using hin
        have HNO : Hid (rightB l = false) := rightB_no hlt (by unfold okAt; rw [← HXY.out, hin']; rfl)
        clear hcell hin
        go_wp2
        refine Qt.below_all (by kernel_rfl) (by kernel_rfl) ?_
        repeat (go_big_quiet_step (first | (go_at_call 52; exact Qt.at_call (refIn_no (x, y) hin'))))
        refine wpQuiet_nil ?_
        intro w1 hb1
        go_wp2
        go_ret
        exact ⟨by rw [← HR.out, HNO.out]; rfl, Qt.more hb hb.size hb1⟩
    · have hltz : ¬ (k : Int) < (l.length : Int) := by omega
      have hkl : k = l.length := by omega
      by_cases hlong : 2000 < l.length
      · have E := Lib.hid (rightB_long hlong)
        clear HK hkl
        go_wp2
        go_ret
        exact ⟨by rw [← HR.out, E.out]; simp; omega, hb⟩
      · have E : Hid (rightB l = true) := rightB_yes (by omega) fun j hj => HK.out j (by omega)
        clear HK hkl
        go_wp2
        go_ret
        exact ⟨by rw [← HR.out, E.out]; simp; omega, hb⟩

end Go.Proofs.Ytgjibpgfcbdpgaa.Cel
namespace Go.Proofs.Ytgjibpgfcbdpgaa.Cel
open Go.RowKit Go.Sort

def shL (dx dy : Int) (l : List (Int × Int)) : List (Int × Int) := l.map fun c => (c.1 + dx, c.2 + dy)
theorem length_shL (dx dy : Int) (l : List (Int × Int)) : (shL dx dy l).length = l.length := List.length_map _
theorem inB_iff (p : Int × Int) : inB p = true ↔ -1099511627776 ≤ p.1 ∧ p.1 ≤ 1099511627776 ∧ -1099511627776 ≤ p.2 ∧ p.2 ≤ 1099511627776 := by simp [inB]

end Go.Proofs.Ytgjibpgfcbdpgaa.Cel
