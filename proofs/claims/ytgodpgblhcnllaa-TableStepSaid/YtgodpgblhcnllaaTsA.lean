/-
  The contract of frankinglaw10.TableStep. Conditions: the table lies in memory; names within Go's own bounds.
-/
import Derived.Test.YtgodpgblhcnllaaTbZa
namespace Go.Proofs.Ytgodpgblhcnllaa
open Go.RowKit

theorem lt_of_cell {W : World} {a : Addr} {v : Value} (h : W.cell? a = some v) : a.block < W.heap.size := World.block_lt_of_cell? _ _ h
attribute [local go_sem ↓] loadOp_C loadOp_T
set_option maxRecDepth 100000 in
set_option maxHeartbeats 2000000 in
theorem tableStep_no (t : Tab) (p : Lie) (X : Array Value) (hX : (tabCells t p).toArray = X) (s : Int) (b c : UInt8) (w : World) (h : TabAt w t p) (hf : fewB t = false) :
    Calls Try.prog 6 #[.agg X, .int .i64 s, .int .u8 (b.toNat : Int), .int .u8 (c.toNat : Int)] w fun e w' => e = .returned (.bool true) ∧ Below w.heap.size w w' := by
  have hi := TabIn.new h
  have hb0 : Below w.heap.size w (w.alloc (.cells (tabCells t p).toArray 30)) := (Below.refl _ _).alloc (Nat.le_refl _) _
  rw [hX] at hi hb0
  have hall := hi.read.all
  rw [hX] at hall
  have HFW := Lib.hid (few_any t p X hX _ hi.at_)
  rw [hf] at HFW
  have HB := Lib.hid hb0
  have HAW := Lib.hid awake_any
  clear h hi hb0 hX hf
  go_enter Try.func6, Try.ntmps6
  go_wp2_with (first
    | (go_at_call 7; refine HFW.out.mono ?_; rintro e w1 ⟨rfl, hb1⟩; have HB1 := Lib.hid (low_trans HB.out hb1); clear hb1)
    | (go_at_call 8; refine (HAW.out _).mono ?_; rintro e w2 ⟨rfl, hb2⟩; have HB2 := Lib.hid (low_trans HB1.out hb2); clear hb2))
  go_ret
  exact ⟨rfl, HB2.out⟩
set_option maxRecDepth 100000 in
set_option maxHeartbeats 2000000 in
theorem tableStep_notRight (t : Tab) (p : Lie) (X : Array Value) (hX : (tabCells t p).toArray = X) (s : Int) (b c : UInt8) (w : World) (h : TabAt w t p) (hf : fewB t = true) (hr : tabRightB t = false) :
    Calls Try.prog 6 #[.agg X, .int .i64 s, .int .u8 (b.toNat : Int), .int .u8 (c.toNat : Int)] w fun e w' => e = .returned (.bool true) ∧ Below w.heap.size w w' := by
  obtain ⟨B, HBE⟩ : ∃ B, Hid (B = w.heap.size) := ⟨_, rfl⟩
  have hi := TabIn.new h
  have hb0 : Below w.heap.size w (w.alloc (.cells (tabCells t p).toArray 30)) := (Below.refl _ _).alloc (Nat.le_refl _) _
  rw [hX] at hi hb0
  have hall := hi.read.all
  rw [hX] at hall
  have HFW := Lib.hid (few_any t p X hX _ hi.at_)
  rw [hf] at HFW
  have HI := Lib.hid hi
  have HB := Lib.hid hb0
  have HAW := Lib.hid awake_any
  have HQ1 : Hid (∀ W, TabIn W B t p → Calls Try.prog 11 #[.agg X, .int .i64 s, .int .u8 (b.toNat : Int)] W fun e w' => e = .returned (.int .i64 (stepP t s b)) ∧ Below W.heap.size W w') := fun W hW => step_any t p X hX s b W hW.at_
  have HQ2 : Hid (∀ W, TabIn W B t p → Calls Try.prog 11 #[.agg X, .int .i64 s, .int .u8 (c.toNat : Int)] W fun e w' => e = .returned (.int .i64 (stepP t s c)) ∧ Below W.heap.size W w') := fun W hW => step_any t p X hX s c W hW.at_
  have HQR : Hid (∀ W, TabIn W B t p → Calls Try.prog 9 #[.agg X] W fun e w' => e = .returned (.bool (tabRightB t)) ∧ Below W.heap.size W w') := fun W hW => right_agg t p X hX W hW.at_
  have HLIM : Hid (∀ W, TabIn W B t p → Below w.heap.size w W → TabIn W B t p ∧ Below w.heap.size w W ∧ (LoadOp 30 (.pointer (some ⟨B, 0, none⟩))).run Try.prog W = .ok (.agg X) W) := fun W h1 h2 => ⟨h1, h2, by have := h1.read.all; rw [hX] at this; exact this⟩
  have htl := h.tags.len
  have hnl := h.next.len
  unfold maxLen at htl hnl
  have hs1 : stepP t s b = -1 := by unfold stepP; exact if_pos (.inr (.inr hr))
  have hs2 : stepP t s c = -1 := by unfold stepP; exact if_pos (.inr (.inr hr))
  rw [hs1] at HQ1
  rw [hs2] at HQ2
  rw [hr] at HQR
  clear hs1 hs2 hr
  clear h hi hb0 hX hf
  go_enter Try.func6, Try.ntmps6
  go_wp2_with (go_at_call 7; refine HFW.out.mono ?_; rintro e w1 ⟨rfl, hb1⟩; have HB1 := Lib.hid (low_trans HB.out hb1); have HI1 := Lib.hid (HI.out.below hb1); clear hb1)
  have hi1 := HI1.out
  have hb1 := HB1.out
  rw [← HBE.out] at hi1
  clear HI HB HI1 HB1 hall HFW
  rw [show (Value.pointer (some ⟨w.heap.size, 0, none⟩)) = Value.pointer (some ⟨B, 0, none⟩) from by rw [HBE.out]]
  refine wp_region_held_drew (S := (fun W => TabIn W B t p ∧ Below w.heap.size w W ∧ (LoadOp 30 (.pointer (some ⟨B, 0, none⟩))).run Try.prog W = .ok (.agg X) W)) (by kernel_rfl) (HLIM.out _ hi1.drew hb1.drew) (fun hS => ?_)
  refine take_val (i := 0) rfl (by kernel_rfl) (by kernel_rfl) (by kernel_rfl) (fun _ _ _ h => h) rfl (fun w hSw => by (try dsimp only at hSw); go_simp; try with_reducible rfl) hS ?_; try simp only [Act.put, List.setIfInBounds_toArray, List.set_cons_zero, List.set_cons_succ]
  refine take_val (i := 1) rfl (by kernel_rfl) (by kernel_rfl) (by kernel_rfl) (fun _ _ _ h => h) rfl (fun w hSw => by (try dsimp only at hSw); go_simp; try with_reducible rfl) hS ?_; try simp only [Act.put, List.setIfInBounds_toArray, List.set_cons_zero, List.set_cons_succ]
  refine take_val (i := 2) rfl (by kernel_rfl) (by kernel_rfl) (by kernel_rfl) (fun _ _ _ h => h) rfl (fun w hSw => by (try dsimp only at hSw); go_simp; try with_reducible rfl) hS ?_; try simp only [Act.put, List.setIfInBounds_toArray, List.set_cons_zero, List.set_cons_succ]
  refine take_val (i := 4) rfl (by kernel_rfl) (by kernel_rfl) (by kernel_rfl) (fun _ _ _ h => h) rfl (fun w hSw => by (try dsimp only at hSw); go_simp; try with_reducible rfl) hS ?_; try simp only [Act.put, List.setIfInBounds_toArray, List.set_cons_zero, List.set_cons_succ]
  refine take_val (i := 5) rfl (by kernel_rfl) (by kernel_rfl) (by kernel_rfl) (fun _ _ _ h => h) rfl (fun w hSw => by (try dsimp only at hSw); go_simp; try with_reducible rfl) hS ?_; try simp only [Act.put, List.setIfInBounds_toArray, List.set_cons_zero, List.set_cons_succ]
  refine take_val (i := 6) rfl (by kernel_rfl) (by kernel_rfl) (by kernel_rfl) (fun _ _ _ h => h) rfl (fun w hSw => by (try dsimp only at hSw); go_simp; try with_reducible rfl) hS ?_; try simp only [Act.put, List.setIfInBounds_toArray, List.set_cons_zero, List.set_cons_succ]
  refine take_call (i := 3) rfl (by kernel_rfl) rfl (fun K hK => ?_)
  go_simp; refine (HQ1.out _ hS.1).mono ?_; rintro e w2 ⟨rfl, hb2⟩; go_wp2_with fail
  refine hK.out _ _ (HLIM.out _ (TabIn.below hS.1 hb2) (hS.2.1.trans (hb2.mono hS.2.1.size))) (fun hS => ?_); clear hK K; try simp only [Act.put, List.setIfInBounds_toArray, List.set_cons_zero, List.set_cons_succ]
  refine take_call (i := 7) rfl (by kernel_rfl) rfl (fun K hK => ?_)
  go_simp; refine (HQ2.out _ hS.1).mono ?_; rintro e w3 ⟨rfl, hb3⟩; go_wp2_with fail
  refine hK.out _ _ (HLIM.out _ (TabIn.below hS.1 hb3) (hS.2.1.trans (hb3.mono hS.2.1.size))) (fun hS => ?_); clear hK K; try simp only [Act.put, List.setIfInBounds_toArray, List.set_cons_zero, List.set_cons_succ]
  refine take_val (i := 8) rfl (by kernel_rfl) (by kernel_rfl) (by kernel_rfl) (fun _ _ _ h => h) rfl (fun w hSw => by (try dsimp only at hSw); go_simp; try with_reducible rfl) hS ?_; try simp only [Act.put, List.setIfInBounds_toArray, List.set_cons_zero, List.set_cons_succ]
  refine take_val (i := 9) rfl (by kernel_rfl) (by kernel_rfl) (by kernel_rfl) (fun _ _ _ h => h) rfl (fun w hSw => by (try dsimp only at hSw); go_simp; try with_reducible rfl) hS ?_; try simp only [Act.put, List.setIfInBounds_toArray, List.set_cons_zero, List.set_cons_succ]
  refine wpAnyH_done (by kernel_rfl) ?_ _
  obtain ⟨hi3, hb3, hall3⟩ := hS
  have hc1 := hi3.dmany
  have hc2 := hi3.next
  have hc3 := hi3.tags
  have HI3 := Lib.hid hi3
  have HB3 := Lib.hid hb3
  clear hi3 hb3 hi1 hb1
  go_wp2_with (first
    | (go_at_call 9; refine (HQR.out _ HI3.out).mono ?_; rintro e w4 ⟨rfl, hb4⟩; have HI4 := Lib.hid (HI3.out.below hb4); have HB4 := Lib.hid (low_trans HB3.out hb4); have k1 := HI4.out.tags; clear hb4)
    | (go_at_call 8; refine (HAW.out _).mono ?_; rintro e w5 ⟨rfl, hb5⟩; have HB5 := Lib.hid (low_trans HB4.out hb5); clear hb5))
  go_ret
  exact ⟨rfl, HB5.out⟩
set_option maxRecDepth 100000 in
set_option maxHeartbeats 2000000 in
theorem tableStep_low (t : Tab) (p : Lie) (X : Array Value) (hX : (tabCells t p).toArray = X) (s : Int) (b c : UInt8) (w : World) (h : TabAt w t p) (hf : fewB t = true) (hr : tabRightB t = true) (hs : s < 0) :
    Calls Try.prog 6 #[.agg X, .int .i64 s, .int .u8 (b.toNat : Int), .int .u8 (c.toNat : Int)] w fun e w' => e = .returned (.bool true) ∧ Below w.heap.size w w' := by
  obtain ⟨B, HBE⟩ : ∃ B, Hid (B = w.heap.size) := ⟨_, rfl⟩
  have hi := TabIn.new h
  have hb0 : Below w.heap.size w (w.alloc (.cells (tabCells t p).toArray 30)) := (Below.refl _ _).alloc (Nat.le_refl _) _
  rw [hX] at hi hb0
  have hall := hi.read.all
  rw [hX] at hall
  have HFW := Lib.hid (few_any t p X hX _ hi.at_)
  rw [hf] at HFW
  have HI := Lib.hid hi
  have HB := Lib.hid hb0
  have HAW := Lib.hid awake_any
  have HQ1 : Hid (∀ W, TabIn W B t p → Calls Try.prog 11 #[.agg X, .int .i64 s, .int .u8 (b.toNat : Int)] W fun e w' => e = .returned (.int .i64 (stepP t s b)) ∧ Below W.heap.size W w') := fun W hW => step_any t p X hX s b W hW.at_
  have HQ2 : Hid (∀ W, TabIn W B t p → Calls Try.prog 11 #[.agg X, .int .i64 s, .int .u8 (c.toNat : Int)] W fun e w' => e = .returned (.int .i64 (stepP t s c)) ∧ Below W.heap.size W w') := fun W hW => step_any t p X hX s c W hW.at_
  have HQR : Hid (∀ W, TabIn W B t p → Calls Try.prog 9 #[.agg X] W fun e w' => e = .returned (.bool (tabRightB t)) ∧ Below W.heap.size W w') := fun W hW => right_agg t p X hX W hW.at_
  have HLIM : Hid (∀ W, TabIn W B t p → Below w.heap.size w W → TabIn W B t p ∧ Below w.heap.size w W ∧ (LoadOp 30 (.pointer (some ⟨B, 0, none⟩))).run Try.prog W = .ok (.agg X) W) := fun W h1 h2 => ⟨h1, h2, by have := h1.read.all; rw [hX] at this; exact this⟩
  have htl := h.tags.len
  have hnl := h.next.len
  unfold maxLen at htl hnl
  have hs1 : stepP t s b = -1 := by unfold stepP; exact if_pos (.inl hs)
  have hs2 : stepP t s c = -1 := by unfold stepP; exact if_pos (.inl hs)
  rw [hs1] at HQ1
  rw [hs2] at HQ2
  rw [hr] at HQR
  clear hs1 hs2 hr
  clear h hi hb0 hX hf
  go_enter Try.func6, Try.ntmps6
  go_wp2_with (go_at_call 7; refine HFW.out.mono ?_; rintro e w1 ⟨rfl, hb1⟩; have HB1 := Lib.hid (low_trans HB.out hb1); have HI1 := Lib.hid (HI.out.below hb1); clear hb1)
  have hi1 := HI1.out
  have hb1 := HB1.out
  rw [← HBE.out] at hi1
  clear HI HB HI1 HB1 hall HFW
  rw [show (Value.pointer (some ⟨w.heap.size, 0, none⟩)) = Value.pointer (some ⟨B, 0, none⟩) from by rw [HBE.out]]
  refine wp_region_held_drew (S := (fun W => TabIn W B t p ∧ Below w.heap.size w W ∧ (LoadOp 30 (.pointer (some ⟨B, 0, none⟩))).run Try.prog W = .ok (.agg X) W)) (by kernel_rfl) (HLIM.out _ hi1.drew hb1.drew) (fun hS => ?_)
  refine take_val (i := 0) rfl (by kernel_rfl) (by kernel_rfl) (by kernel_rfl) (fun _ _ _ h => h) rfl (fun w hSw => by (try dsimp only at hSw); go_simp; try with_reducible rfl) hS ?_; try simp only [Act.put, List.setIfInBounds_toArray, List.set_cons_zero, List.set_cons_succ]
  refine take_val (i := 1) rfl (by kernel_rfl) (by kernel_rfl) (by kernel_rfl) (fun _ _ _ h => h) rfl (fun w hSw => by (try dsimp only at hSw); go_simp; try with_reducible rfl) hS ?_; try simp only [Act.put, List.setIfInBounds_toArray, List.set_cons_zero, List.set_cons_succ]
  refine take_val (i := 2) rfl (by kernel_rfl) (by kernel_rfl) (by kernel_rfl) (fun _ _ _ h => h) rfl (fun w hSw => by (try dsimp only at hSw); go_simp; try with_reducible rfl) hS ?_; try simp only [Act.put, List.setIfInBounds_toArray, List.set_cons_zero, List.set_cons_succ]
  refine take_val (i := 4) rfl (by kernel_rfl) (by kernel_rfl) (by kernel_rfl) (fun _ _ _ h => h) rfl (fun w hSw => by (try dsimp only at hSw); go_simp; try with_reducible rfl) hS ?_; try simp only [Act.put, List.setIfInBounds_toArray, List.set_cons_zero, List.set_cons_succ]
  refine take_val (i := 5) rfl (by kernel_rfl) (by kernel_rfl) (by kernel_rfl) (fun _ _ _ h => h) rfl (fun w hSw => by (try dsimp only at hSw); go_simp; try with_reducible rfl) hS ?_; try simp only [Act.put, List.setIfInBounds_toArray, List.set_cons_zero, List.set_cons_succ]
  refine take_val (i := 6) rfl (by kernel_rfl) (by kernel_rfl) (by kernel_rfl) (fun _ _ _ h => h) rfl (fun w hSw => by (try dsimp only at hSw); go_simp; try with_reducible rfl) hS ?_; try simp only [Act.put, List.setIfInBounds_toArray, List.set_cons_zero, List.set_cons_succ]
  refine take_call (i := 3) rfl (by kernel_rfl) rfl (fun K hK => ?_)
  go_simp; refine (HQ1.out _ hS.1).mono ?_; rintro e w2 ⟨rfl, hb2⟩; go_wp2_with fail
  refine hK.out _ _ (HLIM.out _ (TabIn.below hS.1 hb2) (hS.2.1.trans (hb2.mono hS.2.1.size))) (fun hS => ?_); clear hK K; try simp only [Act.put, List.setIfInBounds_toArray, List.set_cons_zero, List.set_cons_succ]
  refine take_call (i := 7) rfl (by kernel_rfl) rfl (fun K hK => ?_)
  go_simp; refine (HQ2.out _ hS.1).mono ?_; rintro e w3 ⟨rfl, hb3⟩; go_wp2_with fail
  refine hK.out _ _ (HLIM.out _ (TabIn.below hS.1 hb3) (hS.2.1.trans (hb3.mono hS.2.1.size))) (fun hS => ?_); clear hK K; try simp only [Act.put, List.setIfInBounds_toArray, List.set_cons_zero, List.set_cons_succ]
  refine take_val (i := 8) rfl (by kernel_rfl) (by kernel_rfl) (by kernel_rfl) (fun _ _ _ h => h) rfl (fun w hSw => by (try dsimp only at hSw); go_simp; try with_reducible rfl) hS ?_; try simp only [Act.put, List.setIfInBounds_toArray, List.set_cons_zero, List.set_cons_succ]
  refine take_val (i := 9) rfl (by kernel_rfl) (by kernel_rfl) (by kernel_rfl) (fun _ _ _ h => h) rfl (fun w hSw => by (try dsimp only at hSw); go_simp; try with_reducible rfl) hS ?_; try simp only [Act.put, List.setIfInBounds_toArray, List.set_cons_zero, List.set_cons_succ]
  refine wpAnyH_done (by kernel_rfl) ?_ _
  obtain ⟨hi3, hb3, hall3⟩ := hS
  have hc1 := hi3.dmany
  have hc2 := hi3.next
  have hc3 := hi3.tags
  have HI3 := Lib.hid hi3
  have HB3 := Lib.hid hb3
  clear hi3 hb3 hi1 hb1
  go_wp2_with (first
    | (go_at_call 9; refine (HQR.out _ HI3.out).mono ?_; rintro e w4 ⟨rfl, hb4⟩; have HI4 := Lib.hid (HI3.out.below hb4); have HB4 := Lib.hid (low_trans HB3.out hb4); have k1 := HI4.out.tags; clear hb4)
    | (go_at_call 8; refine (HAW.out _).mono ?_; rintro e w5 ⟨rfl, hb5⟩; have HB5 := Lib.hid (low_trans HB4.out hb5); clear hb5))
  go_ret
  exact ⟨rfl, HB5.out⟩
set_option maxRecDepth 100000 in
set_option maxHeartbeats 2000000 in
theorem tableStep_high (t : Tab) (p : Lie) (X : Array Value) (hX : (tabCells t p).toArray = X) (s : Int) (b c : UInt8) (w : World) (h : TabAt w t p) (hf : fewB t = true) (hr : tabRightB t = true) (hs : ¬ s < 0) (hs2 : (t.tags.length : Int) ≤ s) :
    Calls Try.prog 6 #[.agg X, .int .i64 s, .int .u8 (b.toNat : Int), .int .u8 (c.toNat : Int)] w fun e w' => e = .returned (.bool true) ∧ Below w.heap.size w w' := by
  obtain ⟨B, HBE⟩ : ∃ B, Hid (B = w.heap.size) := ⟨_, rfl⟩
  have hi := TabIn.new h
  have hb0 : Below w.heap.size w (w.alloc (.cells (tabCells t p).toArray 30)) := (Below.refl _ _).alloc (Nat.le_refl _) _
  rw [hX] at hi hb0
  have hall := hi.read.all
  rw [hX] at hall
  have HFW := Lib.hid (few_any t p X hX _ hi.at_)
  rw [hf] at HFW
  have HI := Lib.hid hi
  have HB := Lib.hid hb0
  have HAW := Lib.hid awake_any
  have HQ1 : Hid (∀ W, TabIn W B t p → Calls Try.prog 11 #[.agg X, .int .i64 s, .int .u8 (b.toNat : Int)] W fun e w' => e = .returned (.int .i64 (stepP t s b)) ∧ Below W.heap.size W w') := fun W hW => step_any t p X hX s b W hW.at_
  have HQ2 : Hid (∀ W, TabIn W B t p → Calls Try.prog 11 #[.agg X, .int .i64 s, .int .u8 (c.toNat : Int)] W fun e w' => e = .returned (.int .i64 (stepP t s c)) ∧ Below W.heap.size W w') := fun W hW => step_any t p X hX s c W hW.at_
  have HQR : Hid (∀ W, TabIn W B t p → Calls Try.prog 9 #[.agg X] W fun e w' => e = .returned (.bool (tabRightB t)) ∧ Below W.heap.size W w') := fun W hW => right_agg t p X hX W hW.at_
  have HLIM : Hid (∀ W, TabIn W B t p → Below w.heap.size w W → TabIn W B t p ∧ Below w.heap.size w W ∧ (LoadOp 30 (.pointer (some ⟨B, 0, none⟩))).run Try.prog W = .ok (.agg X) W) := fun W h1 h2 => ⟨h1, h2, by have := h1.read.all; rw [hX] at this; exact this⟩
  have htl := h.tags.len
  have hnl := h.next.len
  unfold maxLen at htl hnl
  have hs1 : stepP t s b = -1 := by unfold stepP; exact if_pos (.inr (.inl hs2))
  have hs2 : stepP t s c = -1 := by unfold stepP; exact if_pos (.inr (.inl hs2))
  rw [hs1] at HQ1
  rw [hs2] at HQ2
  rw [hr] at HQR
  clear hs1 hs2 hr
  clear h hi hb0 hX hf
  go_enter Try.func6, Try.ntmps6
  go_wp2_with (go_at_call 7; refine HFW.out.mono ?_; rintro e w1 ⟨rfl, hb1⟩; have HB1 := Lib.hid (low_trans HB.out hb1); have HI1 := Lib.hid (HI.out.below hb1); clear hb1)
  have hi1 := HI1.out
  have hb1 := HB1.out
  rw [← HBE.out] at hi1
  clear HI HB HI1 HB1 hall HFW
  rw [show (Value.pointer (some ⟨w.heap.size, 0, none⟩)) = Value.pointer (some ⟨B, 0, none⟩) from by rw [HBE.out]]
  refine wp_region_held_drew (S := (fun W => TabIn W B t p ∧ Below w.heap.size w W ∧ (LoadOp 30 (.pointer (some ⟨B, 0, none⟩))).run Try.prog W = .ok (.agg X) W)) (by kernel_rfl) (HLIM.out _ hi1.drew hb1.drew) (fun hS => ?_)
  refine take_val (i := 0) rfl (by kernel_rfl) (by kernel_rfl) (by kernel_rfl) (fun _ _ _ h => h) rfl (fun w hSw => by (try dsimp only at hSw); go_simp; try with_reducible rfl) hS ?_; try simp only [Act.put, List.setIfInBounds_toArray, List.set_cons_zero, List.set_cons_succ]
  refine take_val (i := 1) rfl (by kernel_rfl) (by kernel_rfl) (by kernel_rfl) (fun _ _ _ h => h) rfl (fun w hSw => by (try dsimp only at hSw); go_simp; try with_reducible rfl) hS ?_; try simp only [Act.put, List.setIfInBounds_toArray, List.set_cons_zero, List.set_cons_succ]
  refine take_val (i := 2) rfl (by kernel_rfl) (by kernel_rfl) (by kernel_rfl) (fun _ _ _ h => h) rfl (fun w hSw => by (try dsimp only at hSw); go_simp; try with_reducible rfl) hS ?_; try simp only [Act.put, List.setIfInBounds_toArray, List.set_cons_zero, List.set_cons_succ]
  refine take_val (i := 4) rfl (by kernel_rfl) (by kernel_rfl) (by kernel_rfl) (fun _ _ _ h => h) rfl (fun w hSw => by (try dsimp only at hSw); go_simp; try with_reducible rfl) hS ?_; try simp only [Act.put, List.setIfInBounds_toArray, List.set_cons_zero, List.set_cons_succ]
  refine take_val (i := 5) rfl (by kernel_rfl) (by kernel_rfl) (by kernel_rfl) (fun _ _ _ h => h) rfl (fun w hSw => by (try dsimp only at hSw); go_simp; try with_reducible rfl) hS ?_; try simp only [Act.put, List.setIfInBounds_toArray, List.set_cons_zero, List.set_cons_succ]
  refine take_val (i := 6) rfl (by kernel_rfl) (by kernel_rfl) (by kernel_rfl) (fun _ _ _ h => h) rfl (fun w hSw => by (try dsimp only at hSw); go_simp; try with_reducible rfl) hS ?_; try simp only [Act.put, List.setIfInBounds_toArray, List.set_cons_zero, List.set_cons_succ]
  refine take_call (i := 3) rfl (by kernel_rfl) rfl (fun K hK => ?_)
  go_simp; refine (HQ1.out _ hS.1).mono ?_; rintro e w2 ⟨rfl, hb2⟩; go_wp2_with fail
  refine hK.out _ _ (HLIM.out _ (TabIn.below hS.1 hb2) (hS.2.1.trans (hb2.mono hS.2.1.size))) (fun hS => ?_); clear hK K; try simp only [Act.put, List.setIfInBounds_toArray, List.set_cons_zero, List.set_cons_succ]
  refine take_call (i := 7) rfl (by kernel_rfl) rfl (fun K hK => ?_)
  go_simp; refine (HQ2.out _ hS.1).mono ?_; rintro e w3 ⟨rfl, hb3⟩; go_wp2_with fail
  refine hK.out _ _ (HLIM.out _ (TabIn.below hS.1 hb3) (hS.2.1.trans (hb3.mono hS.2.1.size))) (fun hS => ?_); clear hK K; try simp only [Act.put, List.setIfInBounds_toArray, List.set_cons_zero, List.set_cons_succ]
  refine take_val (i := 8) rfl (by kernel_rfl) (by kernel_rfl) (by kernel_rfl) (fun _ _ _ h => h) rfl (fun w hSw => by (try dsimp only at hSw); go_simp; try with_reducible rfl) hS ?_; try simp only [Act.put, List.setIfInBounds_toArray, List.set_cons_zero, List.set_cons_succ]
  refine take_val (i := 9) rfl (by kernel_rfl) (by kernel_rfl) (by kernel_rfl) (fun _ _ _ h => h) rfl (fun w hSw => by (try dsimp only at hSw); go_simp; try with_reducible rfl) hS ?_; try simp only [Act.put, List.setIfInBounds_toArray, List.set_cons_zero, List.set_cons_succ]
  refine wpAnyH_done (by kernel_rfl) ?_ _
  obtain ⟨hi3, hb3, hall3⟩ := hS
  have hc1 := hi3.dmany
  have hc2 := hi3.next
  have hc3 := hi3.tags
  have HI3 := Lib.hid hi3
  have HB3 := Lib.hid hb3
  clear hi3 hb3 hi1 hb1
  go_wp2_with (first
    | (go_at_call 9; refine (HQR.out _ HI3.out).mono ?_; rintro e w4 ⟨rfl, hb4⟩; have HI4 := Lib.hid (HI3.out.below hb4); have HB4 := Lib.hid (low_trans HB3.out hb4); have k1 := HI4.out.tags; clear hb4)
    | (go_at_call 8; refine (HAW.out _).mono ?_; rintro e w5 ⟨rfl, hb5⟩; have HB5 := Lib.hid (low_trans HB4.out hb5); clear hb5))
  go_ret
  exact ⟨rfl, HB5.out⟩
end Go.Proofs.Ytgodpgblhcnllaa
