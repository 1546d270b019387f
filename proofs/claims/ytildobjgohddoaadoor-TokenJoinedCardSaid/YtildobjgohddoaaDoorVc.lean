/-
  TokenJoined: items' texts, one behind the other, are the text of all: the walk.
-/
import Derived.Test.YtildobjgohddoaaDoorUl
import Derived.Test.YtildobjgohddoaaDoorUo
namespace Go.Proofs.YtildobjgohddoaaDoor
set_option linter.unusedVariables false
set_option linter.unusedSimpArgs false
open Go.RowKit Go.Sort

theorem append_run_g {P : Program} (w : World) {ops : Array Oper} {rest : List Oper} {o : Oper} {a : Act} {Q : Exit → Act → World → Prop} (hg : Region.wanted o (yielded ops a.tmps) = true) (s x : Operand) (t tn : TypeId)
    (ho : o.op = .call { callee := .builtin .append, args := #[s, x], argTypes := #[t, tn] }) (vs vx : Value) (hs : a.eval s = vs) (hx : a.eval x = vx)
    (v' : Value) (w' : World) (hr : (Builtin.append_ #[t, tn] o.type #[vs, vx]).run P w = .ok v' w') (h : wpList P ops Q rest (a.put o.dst v') w') : wpList P ops Q (o :: rest) a w := by
  unfold wpList
  rw [if_pos hg]
  exact .inl (Lib.wp_append_run w s x t tn ho vs vx hs hx v' w' hr h)
theorem up_i64 {I : List Itm} (h : ∀ x ∈ I, goodI x = true) : ∀ x ∈ I.map up, I64 x.2.1 := fun x hx => by
  obtain ⟨y, hy, rfl⟩ := List.mem_map.1 hx
  have := (goodI_iff _).1 (h y hy)
  unfold I64 up
  simp only
  omega

set_option maxHeartbeats 4000000 in
set_option maxRecDepth 100000 in
theorem tokenJoined_walk (A : Option Addr) (raw : List (Int × Int)) (c : Nat) (A' : Option Addr) (raw' : List (Int × Int)) (c' : Nat) (w : World) (hR : RdP w w.heap.size A raw) (hl : raw.length ≤ 9223372036854775807) (hc : raw.length ≤ c) (hw : ∀ p ∈ raw, I64 p.1 ∧ I64 p.2)
    (hR' : RdP w w.heap.size A' raw') (hl' : raw'.length ≤ 9223372036854775807) (hc' : raw'.length ≤ c') (hw' : ∀ p ∈ raw', I64 p.1 ∧ I64 p.2) (hT : Tab w) :
    Calls Tryd.prog 6 #[.slice A raw.length c, .slice A' raw'.length c'] w fun e w' => e = .returned (.bool true) ∧ Below w.heap.size w w' := by
  have HW := Lib.hid hw
  have HW' := Lib.hid hw'
  clear hw hw'
  go_enter Tryd.func6, Tryd.ntmps6
  go_wp2_with fail
  refine (awake_any w hT).mono ?_
  rintro e w1 ⟨rfl, hb1⟩
  have HR1 : NowP w1 A raw := NowP.below hR hb1
  have HR1' : Hid (NowP w1 A' raw') := NowP.below hR' hb1
  have HT1 := Lib.hid (hT.below hb1)
  have B1 := Lib.hid hb1
  clear hb1 hR hR' hT
  go_wp2_with fail
  refine (items_any A raw c w1 HR1 hl hc HW.out).mono ?_
  rintro e w2 ⟨v, rfl, hO2, hb2⟩
  have hI := itemsL_good raw
  have hIl := itemsL_len raw
  generalize itemsL raw = a at *
  obtain ⟨A2, c2, rfl, hc2, hN2⟩ := hO2.reads
  rw [List.length_map] at hc2 ⊢
  have HN2 := Lib.hid hN2
  have HR2 := Lib.hid (HR1'.out.below hb2)
  have B2 := Lib.hid (Qt.more B1.out B1.out.size hb2)
  clear hO2 hN2 HR1 HR1' B1
  go_wp2_with fail
  refine (items_any A' raw' c' w2 HR2.out hl' hc' HW'.out).mono ?_
  rintro e w3 ⟨v, rfl, hO3, hb3⟩
  have hI' := itemsL_good raw'
  have hIl' := itemsL_len raw'
  generalize itemsL raw' = b at *
  obtain ⟨A3, c3, rfl, hc3, hN3⟩ := hO3.reads
  rw [List.length_map] at hc3 ⊢
  have HN3 := Lib.hid hN3
  have HN2b := Lib.hid (HN2.out.below hb3)
  have B3 := Lib.hid (Qt.more B2.out B2.out.size hb3)
  have HBo := Lib.hid (both_of hI hI' hIl hIl')
  have HA64 := Lib.hid (up_i64 hI)
  have HB64 := Lib.hid (up_i64 hI')
  have HT3 := Lib.hid (HT1.out.below (hb2.trans (hb3.mono hb2.size)))
  clear hO3 hN3 HN2 HR2 B2 hI hI' hb2 hb3 HT1
  generalize placedL (a ++ b) [] (a ++ b).length = P at *
  generalize placedL b [] b.length = R at *
  generalize textL a = S at *
  generalize textL b = T at *
  have htx := tokText_any A2 (a.map up) c2 w3 HN2b.out (by rw [List.length_map]; omega) HA64.out HT3.out
  rw [List.length_map] at htx
  unfold TextR at htx
  rw [HBo.out.one] at htx
  go_wp2_with fail
  refine htx.mono ?_
  rintro e w4 ⟨rfl, hb4⟩
  have HN2c := Lib.hid (HN2b.out.below hb4)
  have HN3c := Lib.hid (HN3.out.below hb4)
  have B4 := Lib.hid (Qt.more B3.out B3.out.size hb4)
  have HT4 := Lib.hid (HT3.out.below hb4)
  have htx2 := tokText_any A3 (b.map up) c3 w4 HN3c.out (by rw [List.length_map]; omega) HB64.out HT4.out
  rw [List.length_map] at htx2
  unfold TextR at htx2
  rw [HBo.out.two] at htx2
  clear htx hb4 HN2b HN3 B3 HT3
  have hs := str_size S
  have ht := str_size T
  have hs5 := HBo.out.slen
  have ht5 := HBo.out.tlen
  have hl1 := fun W => lex_any (S ++ T ++ [33]) W (by simp only [List.length_append, List.length_cons, List.length_nil]; omega)
  have hl2 := fun W => lex_any (T ++ [33]) W (by simp only [List.length_append, List.length_cons, List.length_nil]; omega)
  rw [HBo.out.lex, ← str_append, ← str_append] at hl1
  rw [HBo.out.lexR, ← str_append] at hl2
  have hit := HBo.out.item
  rw [← hs] at hit hl1 hs5
  rw [← ht] at hl1 hl2 ht5
  have HIT := Lib.hid hit
  have hall := HBo.out.all
  have HALL : Hid (str (textE (a.map up ++ b.map up)) = str S ++ str T) := by show _ = _; rw [hall, str_append]
  have HPC := Lib.hid HBo.out.pcnt
  have HRC := Lib.hid HBo.out.rcnt
  clear HBo hs ht hit hall
  generalize str S = s at *
  generalize str T = t at *
  go_wp2_with fail
  refine htx2.mono ?_
  rintro e w5 ⟨rfl, hb5⟩
  have HN2d := Lib.hid (HN2c.out.below hb5)
  have HN3d := Lib.hid (HN3c.out.below hb5)
  have B5 := Lib.hid (Qt.more B4.out B4.out.size hb5)
  have HT5 := Lib.hid (HT4.out.below hb5)
  have hl1' : ∀ W, Calls Tryd.prog 12 #[.string (s ++ t ++ { data := #[33] })] W (LexR (P, 0, s.size + t.size) W) := hl1
  have hl2' : ∀ W, Calls Tryd.prog 12 #[.string (t ++ { data := #[33] })] W (LexR (R, 0, t.size) W) := hl2
  clear htx2 hb5 HN2c HN3c B4 HT4 hl1 hl2
  go_wp2_with fail
  refine (hl1' _).mono ?_
  rintro e w6 ⟨v6, rfl, ⟨A6, c6, rfl, hc6, hN6⟩, hb6⟩
  have e6 : ((P, (0 : Int), s.size + t.size) : List Itm × Int × Nat).1.map up = P.map up := rfl
  rw [e6] at hN6
  rw [e6, HPC.out] at hc6
  rw [e6, HPC.out]
  have HN6 := Lib.hid hN6
  have HN2e := Lib.hid (HN2d.out.below hb6)
  have HN3e := Lib.hid (HN3d.out.below hb6)
  have B6 := Lib.hid (Qt.more B5.out B5.out.size hb6)
  have HT6 := Lib.hid (HT5.out.below hb6)
  clear hl1' hb6 HN2d HN3d B5 HT5 hN6 e6
  go_wp2_with fail
  refine (hl2' _).mono ?_
  rintro e w7 ⟨v7, rfl, ⟨A7, c7, rfl, hc7, hN7⟩, hb7⟩
  have e7 : ((R, (0 : Int), t.size) : List Itm × Int × Nat).1.map up = R.map up := rfl
  rw [e7] at hN7
  rw [e7, HRC.out] at hc7
  rw [e7, HRC.out]
  have HN7 := Lib.hid hN7
  have HN6b := Lib.hid (HN6.out.below hb7)
  have HN2f := Lib.hid (HN2e.out.below hb7)
  have HN3f := Lib.hid (HN3e.out.below hb7)
  have B7 := Lib.hid (Qt.more B6.out B6.out.size hb7)
  have HT7 := Lib.hid (HT6.out.below hb7)
  clear hl2' hb7 HN2e HN3e HN6 B6 HT6 hN7 e7
  go_wp2
  go_loopw [16] (fun i wr => ∃ k : Nat, k ≤ b.length ∧ i = .int .i64 k ∧ Hid (Below w7.heap.size w7 wr)) (fun i _ => b.length - (intOf i).toNat)
  case atStart => exact ⟨0, Nat.zero_le _, rfl, Below.refl _ _⟩
  case round =>
    obtain ⟨k, hk, rfl, HB⟩ := hrel
    by_cases hlt : k < b.length
    · have hltz : (k : Int) < (b.length : Int) := by omega
      obtain ⟨tg, n, q, hx, hy, hq⟩ := HIT.out k hlt
      obtain ⟨b6, o6, hA6, hb6B, hc6c⟩ := HN6b.out.at_ (by rw [HPC.out]; omega)
      obtain ⟨b7, o7, hA7, hb7B, hc7c⟩ := HN7.out.at_ (by rw [HRC.out]; omega)
      subst hA6 hA7
      obtain ⟨x0, x1, x2⟩ := hc6c (a.length + k) (by rw [HPC.out]; omega)
      obtain ⟨y0, y1, y2⟩ := hc7c k (by rw [HRC.out]; exact hlt)
      rw [hy] at x0 x1 x2
      rw [hx] at y0 y1 y2
      simp only at x0 x1 x2 y0 y1 y2
      have x0 := Qt.keep HB.out x0
      have x1 := Qt.keep HB.out x1
      have x2 := Qt.keep HB.out x2
      have y0 := Qt.keep HB.out y0
      have y1 := Qt.keep HB.out y1
      have y2 := Qt.keep HB.out y2
      clear hc6c hc7c hx hy
      have kx0 := Qt.cell_in (w := wr.alloc (.cells #[.int .u8 tg.toNat, .int .i64 (n : Int), .int .i64 ((q : Int) + (s.size : Int))] 37)) (a := ⟨wr.heap.size, 0, none⟩) (v := .int .u8 tg.toNat) (by simp)
      have kx1 := Qt.cell_in (w := wr.alloc (.cells #[.int .u8 tg.toNat, .int .i64 (n : Int), .int .i64 ((q : Int) + (s.size : Int))] 37)) (a := ⟨wr.heap.size, 1, none⟩) (v := .int .i64 (n : Int)) (by simp)
      have kx2 := Qt.cell_in (w := wr.alloc (.cells #[.int .u8 tg.toNat, .int .i64 (n : Int), .int .i64 ((q : Int) + (s.size : Int))] 37)) (a := ⟨wr.heap.size, 2, none⟩) (v := .int .i64 ((q : Int) + (s.size : Int))) (by simp)
      have ky0 := fun o => Qt.cell_in ((World.cell?_alloc_lt _ o _ (block_lt_of_cell y0)).trans y0)
      have ky1 := fun o => Qt.cell_in ((World.cell?_alloc_lt _ o _ (block_lt_of_cell y1)).trans y1)
      have ky2 := fun o => Qt.cell_in ((World.cell?_alloc_lt _ o _ (block_lt_of_cell y2)).trans y2)
      have hba : Below wr.heap.size wr (wr.alloc (.cells #[.int .u8 tg.toNat, .int .i64 (n : Int), .int .i64 ((q : Int) + (s.size : Int))] 37)) := (Below.refl _ _).alloc (Nat.le_refl _) _
      have hw2 : IntKind.i64.wrap ((q : Int) + (s.size : Int)) = (q : Int) + (s.size : Int) := by rw [IntKind.wrap_i64]; omega
      go_wp2
      refine Qt.below_all (by kernel_rfl) (by kernel_rfl) ?_
      repeat (go_big_quiet_step (fail))
      refine wpQuiet_nil ?_
      intro w8 hb8
      have HB8 := Lib.hid (Qt.more HB.out HB.out.size (Qt.more hba hba.size hb8))
      clear kx0 kx1 kx2 ky0 ky1 ky2 hba hw2 hb8
      go_wp2
      go_roundw
      case measure => simp [intOf]; omega
      case rel => exact ⟨k + 1, by omega, by go_num, HB8⟩
    · have hltz : ¬ (k : Int) < (b.length : Int) := by omega
      have B8 := Lib.hid (Qt.more B7.out B7.out.size HB.out)
      have hN2 := HN2f.out.below HB.out
      have hN3 := HN3f.out.below HB.out
      have hT8 := HT7.out.below HB.out
      have hO0 : OwnE wr wr.heap.size (.slice none 0 0) [] := World.ownsRow_nil _ _ _ _
      obtain ⟨v8, w8, r8, o8, g8⟩ := appE_any (w := wr) (B := wr.heap.size) (v := .slice none 0 0) (out := []) c2 (Nat.le_refl _) hO0 hN2 (by simp; omega)
      have b8 : Below wr.heap.size wr w8 := (Below.refl _ _).grown g8 (Nat.le_refl _) (fun k e => by cases e)
      obtain ⟨v9, w9, r9, o9, g9⟩ := appE_any c3 b8.size o8 (hN3.below b8) (by simp; omega)
      have b9 : Below wr.heap.size wr w9 := b8.grown g9 b8.size (fun k e => (World.ownsRow.lt o8 k e).1)
      rw [List.length_map] at r8 r9
      obtain ⟨A9, c9, rfl, hc9, hN9⟩ := o9.reads
      have htx := tokText_any A9 _ c9 w9 hN9 (by simp; omega) (fun x hx => by
        simp only [List.nil_append] at hx
        rcases List.mem_append.1 hx with h | h
        · exact HA64.out x h
        · exact HB64.out x h) (hT8.below b9)
      unfold TextR at htx
      have hlen9 : (([] ++ a.map up) ++ b.map up).length = a.length + b.length := by simp
      rw [hlen9, List.nil_append, HALL.out] at htx
      have B9 := Lib.hid (Qt.more B8.out B8.out.size b9)
      clear hN2 hN3 hT8 hO0 o8 g8 b8 o9 g9 b9 hN9 hc9
      go_wp2_with (first
        | (at_builtin; refine append_run_g _ rfl (.const (.slice none 0 0)) (.tmp 127) 22 22 rfl _ _ rfl rfl _ _ r8 ?_)
        | (at_builtin; refine append_run_g _ rfl (.tmp 128) (.tmp 129) 22 22 rfl _ _ rfl rfl _ _ r9 ?_))
      refine htx.mono ?_
      rintro e w10 ⟨rfl, hb10⟩
      have B10 := Lib.hid (Qt.more B9.out B9.out.size hb10)
      clear r8 r9 htx hb10 hlen9
      go_wp2
      go_ret
      exact ⟨by first | rfl | (simp; done), B10.out⟩
end Go.Proofs.YtildobjgohddoaaDoor
