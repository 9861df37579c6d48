/-
  The contract of frankinglaw10.TableTells where the table is not right. Conditions: the table and the bytes lie in memory, within Go's own bounds.
-/
import Derived.Test.YtkgfjapflpjdbaaTtA
namespace Go.Proofs.Ytkgfjapflpjdbaa
open Go.RowKit Go.Shelf

attribute [local go_sem ↓] loadOp_C loadOp_T allocOp_T storeOp_T buildOp_T
set_option maxRecDepth 1000000 in
set_option maxHeartbeats 8000000 in
theorem tableTells_n (t : Tab) (p : Lie) (X : Array Value) (hX : (tabCells t p).toArray = X) (s : Int) (x : UInt8) (ab : Option Addr) (bl : List UInt8) (cb n : Nat) (hn : bl.length = n) (hcb : n ≤ cb) (hcm : cb ≤ maxLen) (w : World) (h : TabAt w t p) (hb : BytesAt w ab bl) (hf : fewB t = true) (hl : n ≤ 6000) (hr : tabRightB t = false) :
    Calls Try.prog 3 #[.agg X, .int .i64 s, .int .u8 (x.toNat : Int), .slice ab n cb] w fun e w' => e = .returned (.bool true) ∧ Below w.heap.size w w' := by
  obtain ⟨Z, hZ⟩ : ∃ Z, (tabCells zeroTab zeroLie).toArray = Z := ⟨_, rfl⟩
  have hzs : Z.size = 261 := by rw [← hZ, List.size_toArray, tab_len zeroTab zeroLie List.length_replicate]
  have HRUN0 := alloc_run
  rw [hZ] at HRUN0
  have HZS := Lib.hid hzs
  have h0 := BkW.start h hb
  rw [hX] at h0
  have hld := h0.tab.read.all
  rw [hX] at hld
  have HW0 := Lib.hid h0
  have HX := Lib.hid hX
  have HTA := Lib.hid h
  have HBA := Lib.hid hb
  have HFW : Hid (∀ W, BkW w W t p ab bl → Calls Try.prog 7 #[.agg X] W fun e w' => e = .returned (.bool true) ∧ Below W.heap.size W w') := fun W hW => by
    have := few_any t p X hX W hW.tab.at_
    rw [hf] at this
    exact this
  have HLIM : Hid (∀ W, BkW w W t p ab bl → BkW w W t p ab bl ∧ (LoadOp 30 (.pointer (some ⟨w.heap.size, 0, none⟩))).run Try.prog W = .ok (.agg X) W) := fun W hW => ⟨hW, by
    have := hW.tab.read.all
    rw [hX] at this
    exact this⟩
  have HRT : Hid (∀ W, BkW w W t p ab bl → Calls Try.prog 9 #[.agg X] W fun e w' => e = .returned (.bool false) ∧ Below W.heap.size W w') := fun W hW => by
    have := right_agg t p X hX W hW.tab.at_
    rw [hr] at this
    exact this
  have HRR : Hid (∀ W, BkW w W t p ab bl → Calls Try.prog 10 #[.agg X] W fun e w' => e = .returned (.bool false) ∧ Below W.heap.size W w') := fun W hW => by
    have := rTabRight_any t p X hX W hW.tab.at_
    rw [hr] at this
    exact this
  obtain ⟨z, hz⟩ : ∃ z, stepP t s x = z := ⟨_, rfl⟩
  have HST : Hid (∀ W, BkW w W t p ab bl → Calls Try.prog 11 #[.agg X, .int .i64 s, .int .u8 (x.toNat : Int)] W fun e w' => e = .returned (.int .i64 z) ∧ Below W.heap.size W w') := fun W hW => by
    have := step_any t p X hX s x W hW.tab.at_
    rw [hz] at this
    exact this
  have HSR : Hid (∀ W, BkW w W t p ab bl → Calls Try.prog 12 #[.agg X, .int .i64 s, .int .u8 (x.toNat : Int)] W fun e w' => e = .returned (.int .i64 z) ∧ Below W.heap.size W w') := fun W hW => by
    have := rStep_any t p X hX s x W hW.tab.at_
    rw [hz] at this
    exact this
  have HAW := Lib.hid awake_any
  obtain ⟨U, hU⟩ : ∃ U, readT bl = U := ⟨_, rfl⟩
  obtain ⟨C, hC⟩ : ∃ C, readZ bl = C := ⟨_, rfl⟩
  have hUw := readT_wf bl
  rw [hU] at hUw
  have HRB : Hid (∀ W, BytesAt W ab bl → Calls Try.prog 15 #[.slice ab n cb] W fun e w' => ∃ Y lie, e = .returned (.tuple #[.agg Y, .int .i64 C]) ∧ Hid ((tabCells U lie).toArray = Y) ∧ Below W.heap.size W w' ∧ TabAt w' U lie ∧ Hid (LieFrom W.heap.size lie ∧ (∀ y, lie.at_ = some y → FreeB w' y.block))) := fun W hW => by
    have := read_all ab bl cb W hW (by rw [hn]; exact hcb) hcm
    rw [hU, hC, hn] at this
    exact this.mono fun e w' ⟨lie, k1, k2, k3, k4, k5⟩ => ⟨_, lie, k1, rfl, k2, k3, k4, k5⟩
  have HRF : Hid (∀ W, BytesAt W ab bl → Calls Try.prog 16 #[.slice ab n cb] W fun e w' => ∃ Y lie, e = .returned (.tuple #[.agg Y, .int .i64 C]) ∧ Hid ((tabCells U lie).toArray = Y) ∧ Below W.heap.size W w' ∧ TabAt w' U lie ∧ Hid (LieFrom W.heap.size lie)) := fun W hW => by
    have := rRead_any ab bl cb n hn hl hcb hcm W hW
    rw [hU, hC] at this
    exact this.mono fun e w' ⟨lie, k1, k2, k3, k4⟩ => ⟨_, lie, k1, rfl, k2, k3, k4⟩
  have HSM : Hid (∀ W B1 B2 Y1 Y2 l1 l2, Hid ((tabCells U l1).toArray = Y1) → Hid ((tabCells U l2).toArray = Y2) → TabIn W B1 U l1 → TabIn W B2 U l2 → Calls Try.prog 17 #[.agg Y1, .agg Y2] W fun e w' => e = .returned (.bool true) ∧ Below W.heap.size W w') := fun W B1 B2 Y1 Y2 l1 l2 h1 h2 i1 i2 => by
    have := same_any U U l1 l2 hUw hUw true (by simp) W i1.at_ i2.at_
    rw [h1.out, h2.out] at this
    exact this
  obtain ⟨S, hS⟩ : ∃ S, bs bl = S := ⟨_, rfl⟩
  have HCB : Hid (∀ W, BytesAt W ab bl → (convert 31 9 (.slice ab n cb)).run Try.prog W = .ok (.string S) W) := fun W h => by
    have := conv_any W ab bl cb h
    rw [hn, hS] at this
    exact this
  have HPK : Hid (∀ W, BkW w W t p ab bl → Calls Try.prog 13 #[.agg X] W fun e w' => e = .returned (.tuple #[.slice none 0 0, .int .i64 100]) ∧ Below W.heap.size W w') := fun W hW => pack_no t p X hX W hW.tab.at_ hr
  have HPR : Hid (∀ W, BkW w W t p ab bl → Calls Try.prog 14 #[.agg X] W fun e w' => e = .returned (.tuple #[.slice none 0 0, .int .i64 100]) ∧ Below W.heap.size W w') := fun W hW => rPack_no t p X hX W hW.tab.at_ hr
  obtain ⟨SN, hSN⟩ : ∃ S, bs [] = S := ⟨_, rfl⟩
  have HCN : Hid (∀ W, (convert 31 9 (.slice none 0 0)).run Try.prog W = .ok (.string SN) W) := fun W => by
    have := conv_any W none [] 0 ⟨by decide, fun h => absurd h (by decide)⟩
    rw [hSN] at this
    exact this
  clear hSN
  have hl2 : ¬ (6000 : Int) < (n : Int) := by omega
  clear h hb hX h0 hf hr hzs hZ hz hU hC hUw hS hn hcb hcm
  go_enter Try.func3, Try.ntmps3
  go_wp2_with (go_at_call 7; refine (HFW.out _ HW0.out).mono ?_; rintro e w1 ⟨rfl, hb1⟩; have HW1 := Lib.hid (HW0.out.later hb1); clear hb1)
  clear hld
  refine wp_region_held_drew (S := (fun W => BkW w W t p ab bl ∧ (LoadOp 30 (.pointer (some ⟨w.heap.size, 0, none⟩))).run Try.prog W = .ok (.agg X) W)) (by kernel_rfl) (HLIM.out _ (HW1.out.later (Below.refl _ _).drew)) (fun hS => ?_)
  refine take_val (i := 0) rfl (by kernel_rfl) (by kernel_rfl) (by kernel_rfl) (fun _ _ _ h => h) rfl (fun w hSw => by (try dsimp only at hSw); go_simp; try with_reducible rfl) hS ?_; try simp only [Act.put, List.setIfInBounds_toArray, List.set_cons_zero, List.set_cons_succ]
  refine take_val (i := 2) rfl (by kernel_rfl) (by kernel_rfl) (by kernel_rfl) (fun _ _ _ h => h) rfl (fun w hSw => by (try dsimp only at hSw); go_simp; try with_reducible rfl) hS ?_; try simp only [Act.put, List.setIfInBounds_toArray, List.set_cons_zero, List.set_cons_succ]
  refine take_call (i := 1) rfl (by kernel_rfl) rfl (fun K hK => ?_)
  go_simp; refine (HRT.out _ hS.1).mono ?_; rintro e w2 ⟨rfl, hb2⟩; go_wp2_with fail
  refine hK.out _ _ (HLIM.out _ (hS.1.later hb2)) (fun hS => ?_); clear hK K; try simp only [Act.put, List.setIfInBounds_toArray, List.set_cons_zero, List.set_cons_succ]
  refine take_call (i := 3) rfl (by kernel_rfl) rfl (fun K hK => ?_)
  go_simp; refine (HRR.out _ hS.1).mono ?_; rintro e w3 ⟨rfl, hb3⟩; go_wp2_with fail
  refine hK.out _ _ (HLIM.out _ (hS.1.later hb3)) (fun hS => ?_); clear hK K; try simp only [Act.put, List.setIfInBounds_toArray, List.set_cons_zero, List.set_cons_succ]
  refine take_val (i := 4) rfl (by kernel_rfl) (by kernel_rfl) (by kernel_rfl) (fun _ _ _ h => h) rfl (fun w hSw => by (try dsimp only at hSw); go_simp; try with_reducible rfl) hS ?_; try simp only [Act.put, List.setIfInBounds_toArray, List.set_cons_zero, List.set_cons_succ]
  refine take_val (i := 5) rfl (by kernel_rfl) (by kernel_rfl) (by kernel_rfl) (fun _ _ _ h => h) rfl (fun w hSw => by (try dsimp only at hSw); go_simp; try with_reducible rfl) hS ?_; try simp only [Act.put, List.setIfInBounds_toArray, List.set_cons_zero, List.set_cons_succ]
  refine take_val (i := 6) rfl (by kernel_rfl) (by kernel_rfl) (by kernel_rfl) (fun _ _ _ h => h) rfl (fun w hSw => by (try dsimp only at hSw); go_simp; try with_reducible rfl) hS ?_; try simp only [Act.put, List.setIfInBounds_toArray, List.set_cons_zero, List.set_cons_succ]
  refine take_val (i := 7) rfl (by kernel_rfl) (by kernel_rfl) (by kernel_rfl) (fun _ _ _ h => h) rfl (fun w hSw => by (try dsimp only at hSw); go_simp; try with_reducible rfl) hS ?_; try simp only [Act.put, List.setIfInBounds_toArray, List.set_cons_zero, List.set_cons_succ]
  refine take_val (i := 8) rfl (by kernel_rfl) (by kernel_rfl) (by kernel_rfl) (fun _ _ _ h => h) rfl (fun w hSw => by (try dsimp only at hSw); go_simp; try with_reducible rfl) hS ?_; try simp only [Act.put, List.setIfInBounds_toArray, List.set_cons_zero, List.set_cons_succ]
  refine take_val (i := 10) rfl (by kernel_rfl) (by kernel_rfl) (by kernel_rfl) (fun _ _ _ h => h) rfl (fun w hSw => by (try dsimp only at hSw); go_simp; try with_reducible rfl) hS ?_; try simp only [Act.put, List.setIfInBounds_toArray, List.set_cons_zero, List.set_cons_succ]
  refine take_val (i := 11) rfl (by kernel_rfl) (by kernel_rfl) (by kernel_rfl) (fun _ _ _ h => h) rfl (fun w hSw => by (try dsimp only at hSw); go_simp; try with_reducible rfl) hS ?_; try simp only [Act.put, List.setIfInBounds_toArray, List.set_cons_zero, List.set_cons_succ]
  refine take_val (i := 12) rfl (by kernel_rfl) (by kernel_rfl) (by kernel_rfl) (fun _ _ _ h => h) rfl (fun w hSw => by (try dsimp only at hSw); go_simp; try with_reducible rfl) hS ?_; try simp only [Act.put, List.setIfInBounds_toArray, List.set_cons_zero, List.set_cons_succ]
  refine take_call (i := 9) rfl (by kernel_rfl) rfl (fun K hK => ?_)
  go_simp; refine (HST.out _ hS.1).mono ?_; rintro e w4 ⟨rfl, hb4⟩; go_wp2_with fail
  refine hK.out _ _ (HLIM.out _ (hS.1.later hb4)) (fun hS => ?_); clear hK K; try simp only [Act.put, List.setIfInBounds_toArray, List.set_cons_zero, List.set_cons_succ]
  refine take_call (i := 13) rfl (by kernel_rfl) rfl (fun K hK => ?_)
  go_simp; refine (HSR.out _ hS.1).mono ?_; rintro e w5 ⟨rfl, hb5⟩; go_wp2_with fail
  refine hK.out _ _ (HLIM.out _ (hS.1.later hb5)) (fun hS => ?_); clear hK K; try simp only [Act.put, List.setIfInBounds_toArray, List.set_cons_zero, List.set_cons_succ]
  refine take_val (i := 14) rfl (by kernel_rfl) (by kernel_rfl) (by kernel_rfl) (fun _ _ _ h => h) rfl (fun w hSw => by (try dsimp only at hSw); go_simp; try with_reducible rfl) hS ?_; try simp only [Act.put, List.setIfInBounds_toArray, List.set_cons_zero, List.set_cons_succ]
  refine take_val (i := 15) rfl (by kernel_rfl) (by kernel_rfl) (by kernel_rfl) (fun _ _ _ h => h) rfl (fun w hSw => by (try dsimp only at hSw); go_simp; try with_reducible rfl) hS ?_; try simp only [Act.put, List.setIfInBounds_toArray, List.set_cons_zero, List.set_cons_succ]
  refine wpAnyH_done (by kernel_rfl) ?_ _
  obtain ⟨hw5, ld5⟩ := hS
  have HW5 := Lib.hid hw5
  clear hw5
  have TOK1 : Hid True := trivial
  have TOK2 : Hid True := trivial
  go_wp2_with (first
    | (clear TOK1; go_at_call 13; refine (HPK.out _ HW5.out).mono ?_; rintro e w6 ⟨rfl, hb6⟩; have HW6 := Lib.hid (HW5.out.later hb6); have ld6 := (HLIM.out _ HW6.out).2; have HB6 := Lib.hid hb6; clear hb6)
    | (go_at_call 14; refine (HPR.out _ HW6.out).mono ?_; rintro e w7 ⟨rfl, hb7⟩; have HW7 := Lib.hid (HW6.out.later hb7); have HB7 := Lib.hid hb7; have cv1 := HCN.out w7; have cv3 := HCB.out w7 HW7.out.b; clear hb7)
    | (go_at_call 15; refine (HRB.out _ HW7.out.b).mono ?_; rintro e w8 ⟨Y8, ⟨an8, cn8, at8, ct8, ns8, cs8⟩, rfl, HY8, hb8, ht8, HL8⟩; obtain ⟨e8, hin8, hbe8⟩ := tab_made w8 U ⟨an8, cn8, at8, ct8, ns8, cs8⟩ Z HZS.out ht8; rw [HY8.out] at e8 hin8 hbe8; have HI8 := Lib.hid hin8; have HB8 := Lib.hid hb8; have HE8 := Lib.hid hbe8; have HW8 := Lib.hid (HW7.out.later (hb8.trans (hbe8.mono hb8.size))); have HT8 := Lib.hid ht8; clear hb8 hbe8 hin8 ht8)
    | (go_at_call 16; refine (HRF.out _ HW8.out.b).mono ?_; rintro e w9 ⟨Y9, lie9, rfl, HY9, hb9, ht9, HL9⟩; obtain ⟨e9, hin9, hbe9⟩ := tab_made w9 U lie9 Z HZS.out ht9; rw [HY9.out] at e9 hin9 hbe9; have HI9 := Lib.hid hin9; have HB9 := Lib.hid hb9; have HE9 := Lib.hid hbe9; have HW9 := Lib.hid (HW8.out.later (hb9.trans (hbe9.mono hb9.size))); have HI89 := Lib.hid ((HI8.out.below hb9).below hbe9); have q8 := HI89.out.read.all; have q9 := HI9.out.read.all; rw [HY8.out] at q8; rw [HY9.out] at q9; clear hb9 hbe9 hin9 ht9)
    | (go_at_call 17; refine (HSM.out _ _ _ _ _ _ _ HY8 HY9 HI89.out HI9.out).mono ?_; rintro e w10 ⟨rfl, hb10⟩; have HB10 := Lib.hid hb10; clear hb10))
  have HQL : Hid (LpW w w10 X 0 [] w8.heap.size Y8 w9.heap.size U lie9) := by
    have h10 := HW9.out.later HB10.out
    refine ⟨h10.low, ?_, ⟨by decide, fun h => absurd h (by decide)⟩, ?_, HI9.out.below HB10.out⟩
    · have := h10.tab.blk
      rw [HX.out] at this
      exact this
    · have := (HI89.out.below HB10.out).blk
      rw [HY8.out] at this
      exact this
  have hsz : w.heap.size + 1 ≤ w5.heap.size ∧ w5.heap.size ≤ w6.heap.size ∧ w6.heap.size ≤ w7.heap.size ∧ w7.heap.size ≤ w8.heap.size ∧ w8.heap.size + 1 ≤ w9.heap.size := by
    have a1 := (Array.getElem?_eq_some_iff.1 HW5.out.tab.blk).1
    have a2 := HB6.out.size
    have a3 := HB7.out.size
    have a4 := HB8.out.size
    have a5 := HB9.out.size
    rw [size_made] at a5
    exact ⟨by omega, a2, a3, a4, a5⟩
  obtain ⟨s1, s2, s3, s4, s5⟩ := hsz
  have HTL : Hid (TgW w10 at8 U.tags.length) := ((((TgW.of HT8.out.tags HL8.out.2).below HE8.out).below HB9.out).below HE9.out).below HB10.out
  have HA6 : Hid (LieFrom (w8.heap.size + 1) lie9) := by
    have := HL9.out
    rw [size_made] at this
    exact this
  have HA7 : Hid (∀ y, at8 = some y → w7.heap.size ≤ y.block ∧ y.block < w8.heap.size) := fun y hy => ⟨HL8.out.1.at_ y hy, (HL8.out.2 y hy).lt⟩
  have HC8 : Hid (∀ W, LpW w W X 0 [] w8.heap.size Y8 w9.heap.size U lie9 → W.cell? ⟨w8.heap.size, 259, none⟩ = some (.slice at8 U.tags.length ct8)) := fun W hW => by
    rw [hW.bu.cell, ← HY8.out, List.getElem?_toArray]
    exact tab_tail U ⟨an8, cn8, at8, ct8, ns8, cs8⟩ HT8.out.of 3 (by decide)
  have HYZ : Hid (Y8.size = 261) := by show _ = _; rw [← HY8.out, List.size_toArray, tab_len _ _ HT8.out.of]
  have HUL : Hid (U.tags.length ≤ 9223372036854775807) := by have := HT8.out.tags.len; unfold maxLen at this; exact this
  have htl2 := HUL.out
  generalize U.tags.length = tl at *
  clear cv1 cv3 e8 e9 q8 q9 ld5 ld6 HW0 HW1 HW5 HW6 HW7 HW8 HW9 HI8 HI9 HI89 HB7 HB8 HE8 HB9 HE9 HB10 HT8 HL8 HL9
  go_loopw [88] (fun i wr => i = .int .i64 0 ∧ Hid (LpW w wr X 0 [] w8.heap.size Y8 w9.heap.size U lie9) ∧ Hid (TgW wr at8 tl)) (fun i _ => 0)
  case atStart => exact ⟨rfl, HQL, HTL⟩
  case round =>
    clear HQL HTL
    obtain ⟨rfl, HQL, HTL⟩ := hrel
    · have c1 := HC8.out _ HQL.out
      have HG7 : Hid (∀ y : Addr, w7.heap.size ≤ y.block → 0 ≠ y.block) := fun y hy => by omega
      go_wp2
      clear c1
      go_loopw [102] (fun i wr => ∃ k : Nat, i = .int .i64 k ∧ k ≤ tl ∧ Hid (LpW w wr X 0 [] w8.heap.size Y8 w9.heap.size U lie9) ∧ Hid (TgW wr at8 tl)) (fun i _ => tl - (intOf i).toNat)
      case atStart => exact ⟨0, rfl, Nat.zero_le _, HQL, HTL⟩
      case round =>
        clear HQL HTL
        obtain ⟨k, rfl, hk, HQL, HTL⟩ := hrel
        by_cases hlt : k < tl
        · have hlt2 : (k : Int) < (tl : Int) := by omega
          have c1 := HC8.out _ HQL.out
          obtain ⟨gt, ot, z0, rfl, cz, fz⟩ := HTL.out.at_ k hlt
          obtain ⟨v1, v2⟩ := HA7.out _ rfl
          have HA9 : Hid (LieFrom (gt + 1) lie9) := HA6.out.mono (by show gt + 1 ≤ _; have : gt < w8.heap.size := v2; omega)
          have v1' : w7.heap.size ≤ gt := v1
          have v2' : gt < w8.heap.size := v2
          have v3 := HG7.out ⟨gt, ot, none⟩ v1
          clear v1 v2
          go_wp2
          go_roundw
          case rel => exact ⟨k + 1, by go_num, by omega, HQL.out.only (only_set gt wr _ _) (by omega) v3 (by omega) (by omega) HA9.out, HTL.out.set_ k _⟩
          case measure => simp [intOf]; omega
        · have hlt2 : ¬ (k : Int) < (tl : Int) := by omega
          have HBK := Lib.hid (HQL.out.bk HX.out HTA.out HBA.out)
          have ld10 := (HLIM.out _ HBK.out).2
          have HBU := Lib.hid HQL.out.bu.lt
          have HGB : Hid (0 ≠ w8.heap.size) := HG7.out ⟨w8.heap.size, 0, none⟩ (by show w7.heap.size ≤ w8.heap.size; omega)
          have v5 : w.heap.size < w8.heap.size := by omega
          have v6 : w9.heap.size ≠ w8.heap.size := by omega
          clear HTL
          go_wp2_with (first
            | (go_at_call 13; refine (HPK.out _ HBK.out).mono ?_; rintro e w11 ⟨rfl, hb11⟩; have HQ2 := Lib.hid (HQL.out.later hb11); have HBU2 : Hid (w8.heap.size + 1 ≤ w11.heap.size) := HQ2.out.bu.lt; clear hb11)
            | (go_at_call 15; refine (HRB.out _ (RowAt.below HBA.out HQ2.out.low)).mono ?_; rintro e w12 ⟨Y12, lie12, rfl, HY12, hb12, ht12, HL12⟩; have HQ3 := Lib.hid (HQ2.out.later hb12); have HS12 := Lib.hid (HQ3.out.anew HYZ.out HY12.out ht12 (HL12.out.1.mono HBU2.out) v5 HGB.out v6 HA6.out); have e12 := HS12.out.1; have cv4 := HCN.out (w12.setRow w8.heap.size Y12); have ld12 := HS12.out.2.2.1.read.all; rw [HY12.out] at ld12; have ld13 := HS12.out.2.2.2.1.read.all; rw [HY9.out] at ld13; clear hb12 ht12)
            | (go_at_call 17; refine (HSM.out _ _ _ _ _ _ _ HY12 HY9 HS12.out.2.2.1 HS12.out.2.2.2.1).mono ?_; rintro e w14 ⟨rfl, hb14⟩; have HL14 : Hid (Below w.heap.size w w14) := low_trans HS12.out.2.1 hb14; have cv6 := HCB.out w14 (RowAt.below HBA.out HL14.out); clear hb14)
            | (go_at_call 8; refine (HAW.out _).mono ?_; rintro e w15 ⟨rfl, hb15⟩; have HL15 := Lib.hid (low_trans HL14.out hb15); clear hb15))
          go_ret
          exact ⟨rfl, HL15.out⟩

end Go.Proofs.Ytkgfjapflpjdbaa
