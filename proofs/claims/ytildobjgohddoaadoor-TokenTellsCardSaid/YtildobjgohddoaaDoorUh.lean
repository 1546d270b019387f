/-
  The laws' own items, of raw numbers; whether items are the same.
-/
import Derived.Test.YtildobjgohddoaaDoorUg
import Derived.Test.YtildobjgohddoaaDoorUf
namespace Go.Proofs.YtildobjgohddoaaDoor
set_option linter.unusedVariables false
set_option linter.unusedSimpArgs false
open Go.RowKit Go.Sort

/-- The slice at A of l.length pairs of numbers reads as l, below block B. -/
def RdP (w : World) (B : Nat) (A : Option Addr) (l : List (Int × Int)) : Prop :=
  ∀ j, j < l.length → ∃ b off, A = some ⟨b, off, none⟩ ∧ b < B ∧ w.cell? ⟨b, off + j * 2, none⟩ = some (.int .i64 (l.getD j (0, 0)).1) ∧ w.cell? ⟨b, off + j * 2 + 1, none⟩ = some (.int .i64 (l.getD j (0, 0)).2)
theorem RdP.below {w w' : World} {B B' : Nat} {A : Option Addr} {l : List (Int × Int)} (h : RdP w B A l) (hb : Below B' w w') (hB : B ≤ B') : RdP w' B A l := fun j hj => by
  obtain ⟨b, off, e, hlt, h0, h1⟩ := h j hj
  have hx : b < B' := Nat.lt_of_lt_of_le hlt hB
  exact ⟨b, off, e, hlt, (hb.cell (p := ⟨b, off + j * 2, none⟩) hx).trans h0, (hb.cell (p := ⟨b, off + j * 2 + 1, none⟩) hx).trans h1⟩
theorem RdP.more {w : World} {B B' : Nat} {A : Option Addr} {l : List (Int × Int)} (h : RdP w B A l) (hB : B ≤ B') : RdP w B' A l := fun j hj => by
  obtain ⟨b, off, e, hlt, h0⟩ := h j hj
  exact ⟨b, off, e, by omega, h0⟩
theorem RdP.nil (w : World) (B : Nat) (A : Option Addr) : RdP w B A [] := fun j hj => absurd hj (Nat.not_lt_zero j)
theorem RdP.at_ {w : World} {B : Nat} {A : Option Addr} {l : List (Int × Int)} (h : RdP w B A l) (hn : 0 < l.length) :
    ∃ b off, A = some ⟨b, off, none⟩ ∧ b < B ∧ ∀ j, j < l.length → w.cell? ⟨b, off + j * 2, none⟩ = some (.int .i64 (l.getD j (0, 0)).1) ∧ w.cell? ⟨b, off + j * 2 + 1, none⟩ = some (.int .i64 (l.getD j (0, 0)).2) := by
  obtain ⟨b, off, e, hlt, _⟩ := h 0 hn
  refine ⟨b, off, e, hlt, fun j hj => ?_⟩
  obtain ⟨b', off', e', _, h0⟩ := h j hj
  rw [e] at e'
  injection e' with e'
  injection e' with e1 e2
  subst e1 e2
  exact h0
def NowP (w : World) (A : Option Addr) (l : List (Int × Int)) : Prop := RdP w w.heap.size A l
theorem NowP.below {w w' : World} {A : Option Addr} {l : List (Int × Int)} (h : NowP w A l) (hb : Below w.heap.size w w') : NowP w' A l := (RdP.below h hb (Nat.le_refl _)).more hb.size

/-! ### items of raw numbers -/
def tagN (n : Nat) : UInt8 := ([98, 111, 36] : List UInt8).getD n 0
def rawN (b : Int) : Nat := (1 + (if b % 9 = 0 then pickI b 1099511627776 else pickI b 5)).toNat
def rawI (x : Int × Int) : Itm := (tagN (pickI x.1 3).toNat, rawN x.2, 0)
def rawT (raw : List (Int × Int)) (k : Nat) : List Itm := (raw.take k).map rawI
def itemsL (raw : List (Int × Int)) : List Itm := rawT raw 40
theorem rawT_succ {raw : List (Int × Int)} {k : Nat} (h : k < raw.length) : rawT raw (k + 1) = rawT raw k ++ [rawI (raw.getD k (0, 0))] := by
  unfold rawT
  rw [List.take_succ_eq_append_getElem h, List.map_append, List.getD_eq_getElem?_getD, List.getElem?_eq_getElem h, Option.getD_some]
  rfl
theorem rawT_len (raw : List (Int × Int)) (k : Nat) : (rawT raw k).length ≤ k := by unfold rawT; rw [List.length_map, List.length_take]; omega
theorem rawT_stop {raw : List (Int × Int)} {k : Nat} (hk : k ≤ raw.length) (hk40 : k ≤ 40) (h : ¬ (k < raw.length ∧ k < 40)) : rawT raw k = itemsL raw := by
  unfold itemsL rawT
  by_cases h1 : k = 40
  · rw [h1]
  · have : k = raw.length := by omega
    rw [this, List.take_of_length_le (Nat.le_refl _), List.take_of_length_le (by omega)]
theorem tagN_good {n : Nat} (h : n < 3) : tagB (tagN n) = true := by
  match n, h with
  | 0, _ => rfl
  | 1, _ => rfl
  | 2, _ => rfl
theorem rawI_good (x : Int × Int) : goodI (rawI x) = true := by
  have h1 := pickI_bd x.1 3 (by omega)
  have h2 := pickI_bd x.2 1099511627776 (by omega)
  have h3 := pickI_bd x.2 5 (by omega)
  refine (goodI_iff _).2 ⟨tagN_good (by omega), ?_, ?_⟩
  · simp only [rawI, rawN]; split <;> omega
  · simp only [rawI, rawN]; split <;> omega
theorem itemsL_good (raw : List (Int × Int)) : ∀ x ∈ itemsL raw, goodI x = true := by
  intro x hx
  obtain ⟨y, _, rfl⟩ := List.mem_map.1 hx
  exact rawI_good y
theorem itemsL_len (raw : List (Int × Int)) : (itemsL raw).length ≤ 40 := rawT_len raw 40
theorem itemsL_at (raw : List (Int × Int)) : ∀ x ∈ itemsL raw, x.2.2 = 0 := by
  intro x hx
  obtain ⟨y, _, rfl⟩ := List.mem_map.1 hx
  rfl

theorem getD_memP {l : List (Int × Int)} {k : Nat} (h : k < l.length) : l.getD k (0, 0) ∈ l := by
  rw [List.getD_eq_getElem?_getD, List.getElem?_eq_getElem h]
  exact List.getElem_mem h
theorem rem9 (b : Int) : (Int.tmod b 9 == 0) = decide (b % 9 = 0) := by
  rw [Bool.eq_iff_iff, beq_iff_eq, decide_eq_true_eq]
  constructor
  · intro h; exact Int.emod_eq_zero_of_dvd (Int.dvd_of_tmod_eq_zero h)
  · intro h; exact Int.tmod_eq_zero_of_dvd (Int.dvd_of_emod_eq_zero h)

set_option maxHeartbeats 4000000 in
set_option maxRecDepth 100000 in
theorem items_any (A : Option Addr) (raw : List (Int × Int)) (c : Nat) (w : World) (hR : NowP w A raw) (hl : raw.length ≤ 9223372036854775807) (hc : raw.length ≤ c) (hw : ∀ p ∈ raw, I64 p.1 ∧ I64 p.2) :
    Calls Tryd.prog 9 #[.slice A raw.length c] w fun e w' => ∃ v, e = .returned v ∧ OwnE w' w.heap.size v ((itemsL raw).map up) ∧ Below w.heap.size w w' := by
  have HW := Lib.hid hw
  clear hw
  go_enter Tryd.func9, Tryd.ntmps9
  go_wp2
  go_loopw [3, 4] (fun v i wr => ∃ k : Nat, k ≤ raw.length ∧ k ≤ 40 ∧ i = .int .i64 k ∧ Hid (OwnE wr w.heap.size v ((rawT raw k).map up)) ∧ Below w.heap.size w wr) (fun _ i _ => 40 - (intOf i).toNat)
  case atStart => exact ⟨0, Nat.zero_le _, by omega, rfl, World.ownsRow_nil _ _ _ _, Below.refl _ _⟩
  case round =>
    obtain ⟨k, hk, hk40, rfl, HO, hb⟩ := hrel
    by_cases hlt : k < raw.length ∧ k < 40
    · obtain ⟨hlt1, hlt2⟩ := hlt
      have hltz : (k : Int) < (raw.length : Int) := by omega
      obtain ⟨b0, off, rfl, _, hcell⟩ := hR.at_ (by omega)
      have c0 := Qt.keep hb (hcell k hlt1).1
      have c1 := Qt.keep hb (hcell k hlt1).2
      have hx64 := HW.out _ (getD_memP hlt1)
      have hup := rawT_succ hlt1
      obtain ⟨⟨x, y⟩, hx⟩ : ∃ x, x = raw.getD k (0, 0) := ⟨_, rfl⟩
      rw [← hx] at c0 c1 hx64 hup
      simp only at c0 c1 hx64
      have HUP := Lib.hid hup
      have HX := Lib.hid hx64
      have hlen := rawT_len raw k
      clear hup hcell hx hx64
      have h1 := pickI_bd x 3 (by omega)
      have h2 := pickI_bd y 1099511627776 (by omega)
      have h3 := pickI_bd y 5 (by omega)
      have h9 := rem9 y
      obtain ⟨a, ha⟩ : ∃ a, a = pickI x 3 := ⟨_, rfl⟩
      obtain ⟨f, hf⟩ : ∃ f, f = pickI y 5 := ⟨_, rfl⟩
      obtain ⟨g, hg⟩ : ∃ g, g = pickI y 1099511627776 := ⟨_, rfl⟩
      have hp3 := fun W => pick_any x 3 W HX.out.1.1 HX.out.1.2 (by omega) (by omega)
      have hp5 := fun W => pick_any y 5 W HX.out.2.1 HX.out.2.2 (by omega) (by omega)
      have hpm := fun W => pick_any y 1099511627776 W HX.out.2.1 HX.out.2.2 (by omega) (by omega)
      have hnum : rawN y = (1 + (if y % 9 = 0 then g else f)).toNat := by rw [hg, hf]; rfl
      have htag : rawI (x, y) = (tagN a.toNat, rawN y, 0) := by rw [ha]; rfl
      rw [← ha] at hp3 h1
      rw [← hf] at hp5 h3
      rw [← hg] at hpm h2
      clear ha hf hg
      have hfin : ∀ m : Nat, rawN y = m → 1 + 0 ≤ m ∧ m ≤ 1099511627776 → ∀ j : Nat, a = j → j < 3 → ∀ v (W : World), Below w.heap.size w W → OwnE W w.heap.size v ((rawT raw k).map up) →
          ∃ v' w', (Builtin.append_ #[22, 22] 22 #[v, .slice (some ⟨W.heap.size, 0, none⟩) 1 1]).run Tryd.prog (W.alloc (.cells #[.int .u8 (tagN j).toNat, .int .i64 m, .int .i64 0] 37)) = .ok v' w' ∧ Hid (OwnE w' w.heap.size v' ((rawT raw (k + 1)).map up)) ∧ Below w.heap.size w w' := by
        intro m hm hmb j hj hj3 v W hbW hO
        obtain ⟨v', w', hrun, hown, _, hb2⟩ := pushE_any (tagN j, (m : Int), 0) hbW.size hO (by rw [List.length_map]; omega)
        refine ⟨v', w', hrun, ?_, hbW.trans hb2⟩
        have e : (rawT raw (k + 1)).map up = (rawT raw k).map up ++ [(tagN j, (m : Int), 0)] := by
          rw [HUP.out, List.map_append, htag, hm, hj]
          rfl
        show OwnE w' w.heap.size v' _
        rw [e]
        exact hown
      have HF := Lib.hid hfin
      have hj3 : ∃ j : Nat, a = j ∧ j < 3 := ⟨a.toNat, by omega, by omega⟩
      obtain ⟨j, rfl, hj⟩ := hj3
      clear hfin htag h1 HUP
      by_cases hm : y % 9 = 0
      · rw [decide_eq_true hm] at h9
        rw [if_pos hm] at hnum
        obtain ⟨m, hm2⟩ : ∃ m : Nat, 1 + g = m := ⟨(1 + g).toNat, by omega⟩
        have hnum2 : rawN y = m := by omega
        obtain ⟨v', w', hrun, hown, hb2⟩ := HF.out m hnum2 (by omega) j rfl hj _ wr hb HO.out
        have hjc : j = 0 ∨ j = 1 ∨ j = 2 := by omega
        have HRUN := Lib.hid hrun
        clear hrun hnum hnum2 HF hm
        go_wp2_with fail
        refine (hp5 _).mono ?_
        rintro e w3 ⟨rfl, rfl⟩
        go_wp2_with fail
        refine (hpm _).mono ?_
        rintro e w3 ⟨rfl, rfl⟩
        go_wp2_with fail
        refine (hp3 _).mono ?_
        rintro e w3 ⟨rfl, rfl⟩
        rcases hjc with rfl | rfl | rfl
        · have ht : (((tagN 0).toNat : Nat) : Int) = 98 := rfl
          rw [ht] at HRUN
          clear ht
          go_wp2_with (at_builtin; refine Lib.wpList_append_run _ rfl (.tmp 37) (.tmp 47) 22 22 rfl _ _ rfl rfl _ _ HRUN.out ?_)
          go_roundw
          case measure => simp [intOf]; omega
          case rel => exact ⟨k + 1, by omega, by omega, by go_num, hown, hb2⟩
        · have ht : (((tagN 1).toNat : Nat) : Int) = 111 := rfl
          rw [ht] at HRUN
          clear ht
          go_wp2_with (at_builtin; refine Lib.wpList_append_run _ rfl (.tmp 37) (.tmp 47) 22 22 rfl _ _ rfl rfl _ _ HRUN.out ?_)
          go_roundw
          case measure => simp [intOf]; omega
          case rel => exact ⟨k + 1, by omega, by omega, by go_num, hown, hb2⟩
        · have ht : (((tagN 2).toNat : Nat) : Int) = 36 := rfl
          rw [ht] at HRUN
          clear ht
          go_wp2_with (at_builtin; refine Lib.wpList_append_run _ rfl (.tmp 37) (.tmp 47) 22 22 rfl _ _ rfl rfl _ _ HRUN.out ?_)
          go_roundw
          case measure => simp [intOf]; omega
          case rel => exact ⟨k + 1, by omega, by omega, by go_num, hown, hb2⟩
      · rw [decide_eq_false hm] at h9
        rw [if_neg hm] at hnum
        obtain ⟨m, hm2⟩ : ∃ m : Nat, 1 + f = m := ⟨(1 + f).toNat, by omega⟩
        have hnum2 : rawN y = m := by omega
        obtain ⟨v', w', hrun, hown, hb2⟩ := HF.out m hnum2 (by omega) j rfl hj _ wr hb HO.out
        have hjc : j = 0 ∨ j = 1 ∨ j = 2 := by omega
        have HRUN := Lib.hid hrun
        clear hrun hnum hnum2 HF hm
        go_wp2_with fail
        refine (hp5 _).mono ?_
        rintro e w3 ⟨rfl, rfl⟩
        go_wp2_with fail
        refine (hp3 _).mono ?_
        rintro e w3 ⟨rfl, rfl⟩
        rcases hjc with rfl | rfl | rfl
        · have ht : (((tagN 0).toNat : Nat) : Int) = 98 := rfl
          rw [ht] at HRUN
          clear ht
          go_wp2_with (at_builtin; refine Lib.wpList_append_run _ rfl (.tmp 37) (.tmp 47) 22 22 rfl _ _ rfl rfl _ _ HRUN.out ?_)
          go_roundw
          case measure => simp [intOf]; omega
          case rel => exact ⟨k + 1, by omega, by omega, by go_num, hown, hb2⟩
        · have ht : (((tagN 1).toNat : Nat) : Int) = 111 := rfl
          rw [ht] at HRUN
          clear ht
          go_wp2_with (at_builtin; refine Lib.wpList_append_run _ rfl (.tmp 37) (.tmp 47) 22 22 rfl _ _ rfl rfl _ _ HRUN.out ?_)
          go_roundw
          case measure => simp [intOf]; omega
          case rel => exact ⟨k + 1, by omega, by omega, by go_num, hown, hb2⟩
        · have ht : (((tagN 2).toNat : Nat) : Int) = 36 := rfl
          rw [ht] at HRUN
          clear ht
          go_wp2_with (at_builtin; refine Lib.wpList_append_run _ rfl (.tmp 37) (.tmp 47) 22 22 rfl _ _ rfl rfl _ _ HRUN.out ?_)
          go_roundw
          case measure => simp [intOf]; omega
          case rel => exact ⟨k + 1, by omega, by omega, by go_num, hown, hb2⟩
    · have he := rawT_stop hk hk40 hlt
      rw [he] at HO
      have hdec : (¬ (k : Int) < (raw.length : Int)) ∨ ((k : Int) < (raw.length : Int) ∧ ¬ (k : Int) < 40) := by omega
      clear hlt he
      rcases hdec with hd1 | ⟨hd1, hd2⟩
      all_goals
        go_wp2
        go_ret
        exact ⟨_, rfl, HO.out, hb⟩

end Go.Proofs.YtildobjgohddoaaDoor
