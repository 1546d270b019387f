/-
  Plain mathematics of layer 2: sets that are turned and shifted run to what is turned and shifted so.
-/
import Derived.Test.YtafoleafhkadiaaDo
namespace Go.Proofs.Ytafoleafhkadiaa

def Iso (f : Int × Int → Int × Int) : Prop := (∀ a b, f a = f b → a = b) ∧ (∀ p, ∃ q, f q = p) ∧ ∀ c p, nbB (f c) (f p) = nbB c p
theorem Iso.comp {f g : Int × Int → Int × Int} (hf : Iso f) (hg : Iso g) : Iso (fun p => g (f p)) :=
  ⟨fun a b h => hf.1 _ _ (hg.1 _ _ h), fun p => by obtain ⟨q, rfl⟩ := hg.2.1 p; obtain ⟨r, rfl⟩ := hf.2.1 q; exact ⟨r, rfl⟩, fun c p => by rw [hg.2.2, hf.2.2]⟩

theorem nodup_map {f : Int × Int → Int × Int} (hf : ∀ a b, f a = f b → a = b) {l : List (Int × Int)} (h : l.Nodup) : (l.map f).Nodup := by
  unfold List.Nodup at *
  rw [List.pairwise_map]
  exact h.imp fun hab e => hab (hf _ _ e)
theorem perm_setL {l : List (Int × Int)} (h : l.Nodup) : (setL l).Perm l := by
  rw [List.perm_ext_iff_of_nodup (rises_nodup (rises_setL l)) h]
  exact fun y => mem_setL l y
theorem nbr_setL {l : List (Int × Int)} (h : l.Nodup) (p : Int × Int) : nbr (setL l) p = nbr l p := (perm_setL h).countP_eq _
theorem nbr_map {f : Int × Int → Int × Int} (hf : Iso f) (l : List (Int × Int)) (p : Int × Int) : nbr (l.map f) (f p) = nbr l p := by
  unfold nbr
  rw [List.countP_map]
  congr 1
  funext c
  exact hf.2.2 c p
theorem alive_map {f : Int × Int → Int × Int} (hf : Iso f) {l : List (Int × Int)} (h : Rises l) (p : Int × Int) : aliveB (setL (l.map f)) (f p) = aliveB l p := by
  unfold aliveB
  rw [nbr_setL (nodup_map hf.1 (rises_nodup h)), nbr_map hf]
  congr 1
  rw [Bool.eq_iff_iff, decide_eq_true_eq, decide_eq_true_eq, mem_setL, List.mem_map]
  exact ⟨fun ⟨q, hq, e⟩ => hf.1 _ _ e ▸ hq, fun hp => ⟨p, hp, rfl⟩⟩
/-- What is turned steps to what is turned so. -/
theorem next_map {f : Int × Int → Int × Int} (hf : Iso f) {l : List (Int × Int)} (h : Rises l) : nextL (setL (l.map f)) = setL ((nextL l).map f) := by
  refine rises_ext (rises_nextL _) (rises_setL _) fun y => ?_
  obtain ⟨p, rfl⟩ := hf.2.1 y
  rw [mem_nextL, alive_map hf h, mem_setL, List.mem_map]
  constructor
  · intro ha; exact ⟨p, (mem_nextL l p).2 ha, rfl⟩
  · rintro ⟨q, hq, e⟩
    rw [← hf.1 _ _ e]
    exact (mem_nextL l q).1 hq
theorem iter_map {f : Int × Int → Int × Int} (hf : Iso f) {l : List (Int × Int)} (h : Rises l) (n : Nat) : iterL n (setL (l.map f)) = setL ((iterL n l).map f) := by
  induction n with
  | zero => rfl
  | succ n ih => rw [iterL_succ, iterL_succ, ih, next_map hf (rises_iterL h n)]

def rot (p : Int × Int) : Int × Int := (-p.2, p.1)
def flipP (k : Int) (p : Int × Int) : Int × Int := if 4 ≤ k then (-p.1, p.2) else p
def rotN : Nat → Int × Int → Int × Int
  | 0, p => p
  | n + 1, p => rot (rotN n p)
def turnP (k : Int) (p : Int × Int) : Int × Int := rotN (k % 4).toNat (flipP k p)
theorem iso_id : Iso id := ⟨fun _ _ h => h, fun p => ⟨p, rfl⟩, fun _ _ => rfl⟩
theorem iso_rot : Iso rot := by
  refine ⟨fun a b h => ?_, fun p => ⟨(p.2, -p.1), ?_⟩, fun c p => ?_⟩
  · obtain ⟨a1, a2⟩ := a
    obtain ⟨b1, b2⟩ := b
    simp only [rot, Prod.mk.injEq] at h ⊢
    omega
  · obtain ⟨p1, p2⟩ := p
    simp [rot]
  · obtain ⟨c1, c2⟩ := c
    obtain ⟨p1, p2⟩ := p
    simp only [nbB, rot, ne_eq, Prod.mk.injEq]
    rw [Bool.eq_iff_iff, decide_eq_true_eq, decide_eq_true_eq]
    omega
theorem iso_flip (k : Int) : Iso (flipP k) := by
  by_cases h4 : 4 ≤ k
  · have e : flipP k = fun p => (-p.1, p.2) := funext fun p => by unfold flipP; rw [if_pos h4]
    rw [e]
    refine ⟨fun a b h => ?_, fun p => ⟨(-p.1, p.2), ?_⟩, fun c p => ?_⟩
    · obtain ⟨a1, a2⟩ := a
      obtain ⟨b1, b2⟩ := b
      simp only [Prod.mk.injEq] at h ⊢
      omega
    · obtain ⟨p1, p2⟩ := p
      simp
    · obtain ⟨c1, c2⟩ := c
      obtain ⟨p1, p2⟩ := p
      simp only [nbB, ne_eq, Prod.mk.injEq]
      rw [Bool.eq_iff_iff, decide_eq_true_eq, decide_eq_true_eq]
      omega
  · have e : flipP k = id := funext fun p => by unfold flipP; rw [if_neg h4]; rfl
    rw [e]
    exact iso_id
theorem iso_rotN (n : Nat) : Iso (rotN n) := by
  induction n with
  | zero => exact iso_id
  | succ n ih => exact ih.comp iso_rot
theorem iso_turn (k : Int) : Iso (turnP k) := (iso_flip k).comp (iso_rotN _)
theorem iso_shift (dx dy : Int) : Iso (fun p => (p.1 + dx, p.2 + dy)) := by
  refine ⟨fun a b h => ?_, fun p => ⟨(p.1 - dx, p.2 - dy), ?_⟩, fun c p => ?_⟩
  · obtain ⟨a1, a2⟩ := a
    obtain ⟨b1, b2⟩ := b
    simp only [Prod.mk.injEq] at h ⊢
    omega
  · obtain ⟨p1, p2⟩ := p
    simp
  · obtain ⟨c1, c2⟩ := c
    obtain ⟨p1, p2⟩ := p
    simp only [nbB, ne_eq, Prod.mk.injEq]
    rw [Bool.eq_iff_iff, decide_eq_true_eq, decide_eq_true_eq]
    omega
theorem rotN_bd {b : Int} {p : Int × Int} (h : -b ≤ p.1 ∧ p.1 ≤ b ∧ -b ≤ p.2 ∧ p.2 ≤ b) (n : Nat) : -b ≤ (rotN n p).1 ∧ (rotN n p).1 ≤ b ∧ -b ≤ (rotN n p).2 ∧ (rotN n p).2 ≤ b := by
  induction n with
  | zero => exact h
  | succ n ih => simp only [rotN, rot]; omega
theorem flip_bd {b : Int} {p : Int × Int} (h : -b ≤ p.1 ∧ p.1 ≤ b ∧ -b ≤ p.2 ∧ p.2 ≤ b) (k : Int) : -b ≤ (flipP k p).1 ∧ (flipP k p).1 ≤ b ∧ -b ≤ (flipP k p).2 ∧ (flipP k p).2 ≤ b := by
  unfold flipP
  split
  · simp only; omega
  · exact h
theorem turnP_bd {b : Int} {p : Int × Int} (h : -b ≤ p.1 ∧ p.1 ≤ b ∧ -b ≤ p.2 ∧ p.2 ≤ b) (k : Int) : -b ≤ (turnP k p).1 ∧ (turnP k p).1 ≤ b ∧ -b ≤ (turnP k p).2 ∧ (turnP k p).2 ≤ b := rotN_bd (flip_bd h k) _
/-- a set, turned -/
def turnL (k : Int) (l : List (Int × Int)) : List (Int × Int) := setL (l.map (turnP k))
theorem turnL_to {k : Int} {l : List (Int × Int)} {j : Nat} (hj : j < l.length) : turnL k (l.take (j + 1)) = putL (turnP k (l.getD j (0, 0))) (turnL k (l.take j)) := by
  unfold turnL
  rw [take_snoc hj, List.map_append, List.map_singleton, setL_snoc]
theorem length_turnL (k : Int) (l : List (Int × Int)) : (turnL k l).length ≤ l.length := by
  have := length_setL (l.map (turnP k))
  rwa [List.length_map] at this
theorem turnL_box {b : Int} {k : Int} {l : List (Int × Int)} (h : InBox (-b) b (-b) b l) : InBox (-b) b (-b) b (turnL k l) := by
  intro p hp
  obtain ⟨q, hq, rfl⟩ := List.mem_map.1 ((mem_setL _ _).1 hp)
  exact turnP_bd (h q hq) k

/-! ### boxes of generations -/
theorem InBox.mono {a b c d a' b' c' d' : Int} {l : List (Int × Int)} (h : InBox a b c d l) (h1 : a' ≤ a) (h2 : b ≤ b') (h3 : c' ≤ c) (h4 : d ≤ d') : InBox a' b' c' d' l := fun p hp => by
  have := h p hp; omega
/-- A set in a box of t cells a side, n generations on: in bounds, and not too long, if there is room. -/
theorem runR_box {a c : Int} {t n : Nat} {l : List (Int × Int)} (h : InBox a (a + t - 1) c (c + t - 1) l) (hs : Rises l) (ha : -1099511627776 + n ≤ a ∧ a + t + n ≤ 1099511627776) (hc : -1099511627776 + n ≤ c ∧ c + t + n ≤ 1099511627776) (hroom : (t + 2 * n) * (t + 2 * n) ≤ 2000) :
    runR n l = (0, iterL n l) := by
  have hlen : ∀ k, k ≤ n → (iterL k l).length ≤ 2000 := fun k hk => by
    have hb := iter_box h k
    have := box_len hb (rises_iterL hs k) (t + 2 * k) (t + 2 * k) (by push_cast; omega) (by push_cast; omega)
    exact Nat.le_trans this (Nat.le_trans (Nat.mul_le_mul (by omega) (by omega)) hroom)
  have hin : ∀ k, k ≤ n → ∀ p ∈ iterL k l, inB p = true := fun k hk p hp => by
    have := iter_box h k p hp
    simp only [inB, decide_eq_true_eq]
    omega
  exact runR_iter n l ((rightB_iff l).2 ⟨hlen 0 (by omega), hin 0 (by omega), hs⟩) fun k _ hk => ⟨hin k hk, hlen k hk⟩

end Go.Proofs.Ytafoleafhkadiaa
