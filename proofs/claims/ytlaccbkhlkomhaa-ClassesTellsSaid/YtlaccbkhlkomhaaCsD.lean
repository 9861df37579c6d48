/-
  frankinglaw06's examples (awake) come out true. No conditions.
-/
import Derived.Test.YtlaccbkhlkomhaaCsC
import Derived.Test.YtlaccbkhlkomhaaGh
namespace Go.Proofs.Ytlaccbkhlkomhaa
open Go.RowKit

attribute [local go_sem ↓] loadCl_eq storeCl_eq
set_option maxRecDepth 100000 in
set_option maxHeartbeats 8000000 in
theorem awake_any (w : World) : Calls Try.prog 9 #[] w fun e w' => e = .returned (.bool true) ∧ Below w.heap.size w w' := by
  have HS : Hid (∀ (l : List UInt8) W, l.length ≤ 1000 → Calls Try.prog 22 #[.string (bs l)] W fun e w' => e = .returned (.agg #[.int .u64 ((setOfL l).s0 : Int), .int .u64 ((setOfL l).s1 : Int), .int .u64 ((setOfL l).s2 : Int), .int .u64 ((setOfL l).s3 : Int)]) ∧ Below W.heap.size W w') := fun l W hl => set_any l hl W
  have HO : Hid (∀ (s : St) W, Calls Try.prog 21 #[.agg #[.int .u64 (s.s0 : Int), .int .u64 (s.s1 : Int), .int .u64 (s.s2 : Int), .int .u64 (s.s3 : Int)]] W fun e w' => e = .returned (.agg #[.int .u8 1, .int .u64 (s.s0 : Int), .int .u64 (s.s1 : Int), .int .u64 (s.s2 : Int), .int .u64 (s.s3 : Int), .slice none 0 0]) ∧ Below W.heap.size W w') := fun s W => one_any s W
  obtain ⟨ca, hca⟩ : ∃ ca, ca = clV [] := ⟨_, rfl⟩
  obtain ⟨cb, hcb⟩ : ∃ cb, cb = clV awV := ⟨_, rfl⟩
  obtain ⟨zs, hzs⟩ : ∃ zs : Array Value, zs = (clCells cl0 0).toArray := ⟨_, rfl⟩
  have hz : ∀ W, (zeroValue 25).run Try.prog W = .ok (.agg zs) W := fun W => by rw [hzs]; kernel_rfl
  have hzn : zs.size = 257 := by rw [hzs]; simp [clCells_len _ _ cl0_len]
  have HF1 : Hid (∀ W, Calls Try.prog 10 #[.slice none 0 0] W fun e w' => e = .returned (.tuple #[.agg ca, .int .i64 0]) ∧ Below W.heap.size W w') := fun W => by
    have := of_any none 0 [] W (.nil _ _) (by decide)
    rw [hca]
    exact this
  have HF2 : Hid (∀ (W : World), Calls Try.prog 10 #[.slice (some ⟨W.heap.size, 0, none⟩) 2 2] (W.alloc (.cells (#[.int .u8 1, .int .u64 ((setOfL [98]).s0 : Int), .int .u64 ((setOfL [98]).s1 : Int), .int .u64 ((setOfL [98]).s2 : Int), .int .u64 ((setOfL [98]).s3 : Int), .slice none 0 0, .int .u8 1, .int .u64 ((setOfL [97, 98]).s0 : Int), .int .u64 ((setOfL [97, 98]).s1 : Int), .int .u64 ((setOfL [97, 98]).s2 : Int), .int .u64 ((setOfL [97, 98]).s3 : Int), .slice none 0 0] : Array Value) 42)) fun e w' => e = .returned (.tuple #[.agg cb, .int .i64 0]) ∧ Below (W.alloc (.cells (#[.int .u8 1, .int .u64 ((setOfL [98]).s0 : Int), .int .u64 ((setOfL [98]).s1 : Int), .int .u64 ((setOfL [98]).s2 : Int), .int .u64 ((setOfL [98]).s3 : Int), .slice none 0 0, .int .u8 1, .int .u64 ((setOfL [97, 98]).s0 : Int), .int .u64 ((setOfL [97, 98]).s1 : Int), .int .u64 ((setOfL [97, 98]).s2 : Int), .int .u64 ((setOfL [97, 98]).s3 : Int), .slice none 0 0] : Array Value) 42)).heap.size (W.alloc (.cells (#[.int .u8 1, .int .u64 ((setOfL [98]).s0 : Int), .int .u64 ((setOfL [98]).s1 : Int), .int .u64 ((setOfL [98]).s2 : Int), .int .u64 ((setOfL [98]).s3 : Int), .slice none 0 0, .int .u8 1, .int .u64 ((setOfL [97, 98]).s0 : Int), .int .u64 ((setOfL [97, 98]).s1 : Int), .int .u64 ((setOfL [97, 98]).s2 : Int), .int .u64 ((setOfL [97, 98]).s3 : Int), .slice none 0 0] : Array Value) 42)) w') := fun W => by
    have h1 := oneRs_in (ss := awV) (Blk.new W 42 (#[.int .u8 1, .int .u64 ((setOfL [98]).s0 : Int), .int .u64 ((setOfL [98]).s1 : Int), .int .u64 ((setOfL [98]).s2 : Int), .int .u64 ((setOfL [98]).s3 : Int), .slice none 0 0, .int .u8 1, .int .u64 ((setOfL [97, 98]).s0 : Int), .int .u64 ((setOfL [97, 98]).s1 : Int), .int .u64 ((setOfL [97, 98]).s2 : Int), .int .u64 ((setOfL [97, 98]).s3 : Int), .slice none 0 0] : Array Value)) rfl (by decide) (by decide) (fun s hs => by
      rcases List.mem_cons.1 hs with rfl | hs
      · exact setOfL_ok _
      · obtain rfl := List.mem_singleton.1 hs
        exact setOfL_ok _)
    have h2 := of_any (some ⟨W.heap.size, 0, none⟩) 2 (awV.map oneR) _ h1 (by rw [preL_ones]; decide)
    have h3 : (awV.map oneR).all rightR = true := by
      rw [List.all_eq_true]
      intro t ht
      obtain ⟨s, hs, rfl⟩ := List.mem_map.1 ht
      rcases List.mem_cons.1 hs with rfl | hs
      · exact oneR_right _ ⟨1, by decide, by decide⟩
      · obtain rfl := List.mem_singleton.1 hs
        exact oneR_right _ ⟨1, by decide, by decide⟩
    unfold ofV at h2
    rw [if_pos h3, setsL_ones, ← hcb] at h2
    exact h2
  have HF3 : Hid (∀ (W : World), Calls Try.prog 10 #[.slice (some ⟨W.heap.size, 0, none⟩) 1 1] (W.alloc (.cells (#[.int .u8 1, .int .u64 ((setOfL []).s0 : Int), .int .u64 ((setOfL []).s1 : Int), .int .u64 ((setOfL []).s2 : Int), .int .u64 ((setOfL []).s3 : Int), .slice none 0 0] : Array Value) 42)) fun e w' => e = .returned (.tuple #[.agg zs, .int .i64 2]) ∧ Below (W.alloc (.cells (#[.int .u8 1, .int .u64 ((setOfL []).s0 : Int), .int .u64 ((setOfL []).s1 : Int), .int .u64 ((setOfL []).s2 : Int), .int .u64 ((setOfL []).s3 : Int), .slice none 0 0] : Array Value) 42)).heap.size (W.alloc (.cells (#[.int .u8 1, .int .u64 ((setOfL []).s0 : Int), .int .u64 ((setOfL []).s1 : Int), .int .u64 ((setOfL []).s2 : Int), .int .u64 ((setOfL []).s3 : Int), .slice none 0 0] : Array Value) 42)) w') := fun W => by
    have h1 := oneRs_in (ss := [setOfL []]) (Blk.new W 42 (#[.int .u8 1, .int .u64 ((setOfL []).s0 : Int), .int .u64 ((setOfL []).s1 : Int), .int .u64 ((setOfL []).s2 : Int), .int .u64 ((setOfL []).s3 : Int), .slice none 0 0] : Array Value)) rfl (by decide) (by decide) (fun s hs => by
      obtain rfl := List.mem_singleton.1 hs
      exact setOfL_ok _)
    have h2 := of_any (some ⟨W.heap.size, 0, none⟩) 1 ([setOfL []].map oneR) _ h1 (by rw [preL_ones]; decide)
    have h3 : ([setOfL []].map oneR).all rightR = false := by decide +kernel
    unfold ofV at h2
    rw [if_neg (by rw [h3]; decide), ← hzs] at h2
    exact h2
  have HFA : Hid (∀ W, Calls Try.prog 12 #[.agg ca, .int .i64 0] W fun e w' => e = .returned (.tuple #[.int .u8 0, .bool true]) ∧ Below W.heap.size W w') := fun W => by
    have := first_any (clL []) (manyOf (clL []) : Int) ((0 : Nat) : Int) W (clL_cp []).len
    rw [firstV_of, e0_many, if_pos (by decide), e0_idx] at this
    rw [hca]
    unfold clV
    rw [e0_many]
    exact this
  have HFB : Hid (∀ W, Calls Try.prog 12 #[.agg cb, .int .i64 2] W fun e w' => e = .returned (.tuple #[.int .u8 98, .bool true]) ∧ Below W.heap.size W w') := fun W => by
    have := first_any (clL awV) (manyOf (clL awV) : Int) ((2 : Nat) : Int) W (clL_cp awV).len
    rw [firstV_of, aw_many, if_pos (by decide), aw_idx] at this
    rw [hcb]
    unfold clV
    rw [aw_many]
    exact this
  have HT : Hid (∀ (s : St) W, s.ok → Calls Try.prog 16 #[.agg cb, .agg #[.int .u64 (s.s0 : Int), .int .u64 (s.s1 : Int), .int .u64 (s.s2 : Int), .int .u64 (s.s3 : Int)]] W fun e w' => e = .returned (.bool (!partsB (clL awV) s)) ∧ Below W.heap.size W w') := fun s W hs => by
    have := fits_any (clL awV) (manyOf (clL awV) : Int) s W (clL_cp awV).len hs
    rw [(clL_cp awV).right, Bool.true_and] at this
    rw [hcb]
    exact this
  have haf : partsB (clL awV) (setOfL [97, 98]) = false := aw_fits
  have hap : partsB (clL awV) (setOfL [98, 99]) = true := aw_parts
  have HLA : Hid (∀ (W : World) (B : Nat), Blk W B 25 ca → (LoadCl (.pointer (some ⟨B, 0, none⟩))).run Try.prog W = .ok (.agg ca) W) := fun W B hb => by rw [hca] at hb ⊢; exact loadCl_run (clL_cp []).len hb
  have HLB : Hid (∀ (W : World) (B : Nat), Blk W B 25 cb → (LoadCl (.pointer (some ⟨B, 0, none⟩))).run Try.prog W = .ok (.agg cb) W) := fun W B hb => by rw [hcb] at hb ⊢; exact loadCl_run (clL_cp awV).len hb
  have sa : ∀ W : World, (StoreCl (.pointer (some ⟨W.heap.size, 0, none⟩)) (.agg ca)).run Try.prog (W.alloc (.cells zs 25)) = .ok () (W.alloc (.cells ca 25)) := fun W => by
    have h2 := storeCl_run (cs := ca) hzn (by rw [hca]; exact clV_size _) (by rw [hca]; exact clV_one _) (Blk.new W 25 zs)
    rwa [World.setRow_alloc_new] at h2
  have sb : ∀ W : World, (StoreCl (.pointer (some ⟨W.heap.size, 0, none⟩)) (.agg cb)).run Try.prog (W.alloc (.cells zs 25)) = .ok () (W.alloc (.cells cb 25)) := fun W => by
    have h2 := storeCl_run (cs := cb) hzn (by rw [hcb]; exact clV_size _) (by rw [hcb]; exact clV_one _) (Blk.new W 25 zs)
    rwa [World.setRow_alloc_new] at h2
  have sz : ∀ W : World, (StoreCl (.pointer (some ⟨W.heap.size, 0, none⟩)) (.agg zs)).run Try.prog (W.alloc (.cells zs 25)) = .ok () (W.alloc (.cells zs 25)) := fun W => by
    have h2 := storeCl_run hzn hzn (by rw [hzs]; exact cl_one _ _) (Blk.new W 25 zs)
    rwa [World.setRow_alloc_new] at h2
  have HCA : Hid (ca[256]? = some (.int .i64 1)) := by show _ = _; rw [hca, clV_many, e0_many]; rfl
  have HCB : Hid (cb[256]? = some (.int .i64 3) ∧ cb[97]? = some (.int .u8 1) ∧ cb[98]? = some (.int .u8 2) ∧ cb[99]? = some (.int .u8 0) ∧ cb[0]? = some (.int .u8 0)) := by
    rw [hcb]
    exact ⟨by rw [clV_many, aw_many]; rfl, clV_of _ _ _ aw_97, clV_of _ _ _ aw_98, clV_of _ _ _ aw_99, clV_of _ _ _ aw_0⟩
  have HL : Hid (Below w.heap.size w w) := Below.refl _ _
  clear hca hcb hzs
  go_enter Try.func9, Try.ntmps9
  go_upto_region 2 with (go_at_call 10; refine (HF1.out _).mono ?_; rintro e w5 ⟨rfl, hb⟩; have HL := Lib.hid (low0 HL.out hb (Nat.le_refl _)); have HB1 := Lib.hid (Blk.new w5 25 ca); clear hb)
  clear sa
  have HL := Lib.hid (HL.out.alloc HL.out.size (.cells ca 25))
  generalize w5.alloc (.cells ca 25) = W1 at *
  generalize w5.heap.size = b1 at *
  go_upto_region 3 with (first
    | (go_at_call 10; refine (HF2.out _).mono ?_; rintro e w6 ⟨rfl, hb⟩; have HL := Lib.hid (low1 HL.out hb (Nat.le_refl _)); have HB1 := Lib.hid (keep1 HB1.out hb); have HB3 := Lib.hid (Blk.new w6 25 cb); clear hb)
    | (go_at_call 22; refine (HS.out _ _ (by decide)).mono ?_; rintro e w5 ⟨rfl, hb⟩; (first | (have HL := Lib.hid (low1 HL.out hb (Nat.le_refl _))) | (have HL := Lib.hid (low0 HL.out hb (Nat.le_refl _)))); first | (have HB1 := Lib.hid (keep1 HB1.out hb)) | (have HB1 := Lib.hid (keep0 HB1.out hb)) | skip; first | (have HB3 := Lib.hid (keep1 HB3.out hb)) | (have HB3 := Lib.hid (keep0 HB3.out hb)) | skip; first | (have l1 := HLA.out _ _ HB1.out) | skip; first | (have l3 := HLB.out _ _ HB3.out) | skip; clear hb)
    | (go_at_call 21; refine (HO.out _ _).mono ?_; rintro e w5 ⟨rfl, hb⟩; (first | (have HL := Lib.hid (low1 HL.out hb (Nat.le_refl _))) | (have HL := Lib.hid (low0 HL.out hb (Nat.le_refl _)))); first | (have HB1 := Lib.hid (keep1 HB1.out hb)) | (have HB1 := Lib.hid (keep0 HB1.out hb)) | skip; first | (have HB3 := Lib.hid (keep1 HB3.out hb)) | (have HB3 := Lib.hid (keep0 HB3.out hb)) | skip; first | (have l1 := HLA.out _ _ HB1.out) | skip; first | (have l3 := HLB.out _ _ HB3.out) | skip; clear hb))
  clear sb
  have HL := Lib.hid (HL.out.alloc HL.out.size (.cells cb 25))
  have HB1 := Lib.hid (HB1.out.alloc (.cells cb 25))
  generalize w6.alloc (.cells cb 25) = W3 at *
  generalize w6.heap.size = b3 at *
  have l3 := HLB.out _ _ HB3.out
  go_upto_region 4 with (go_at_call 12; refine (HFB.out _).mono ?_; rintro e w7 ⟨rfl, hb⟩; have HL := Lib.hid (low0 HL.out hb (Nat.le_refl _)); have HB1 := Lib.hid (keep0 HB1.out hb); have HB3 := Lib.hid (keep0 HB3.out hb); have l1 := HLA.out _ _ HB1.out; clear hb)
  clear l3
  go_upto_region 5 with (go_at_call 12; refine (HFA.out _).mono ?_; rintro e w8 ⟨rfl, hb⟩; have HL := Lib.hid (low0 HL.out hb (Nat.le_refl _)); have HB1 := Lib.hid (keep0 HB1.out hb); have HB3 := Lib.hid (keep0 HB3.out hb); clear hb)
  clear l1
  go_wp2_with (first
    | (go_at_call 10; refine (HF3.out _).mono ?_; rintro e w9 ⟨rfl, hb⟩; have HL := Lib.hid (low1 HL.out hb (Nat.le_refl _)); have HB1 := Lib.hid (keep1 HB1.out hb); have HB3 := Lib.hid (keep1 HB3.out hb); have h1 := HB1.out.alloc (.cells zs 25); have h3 := HB3.out.alloc (.cells zs 25); have HL := Lib.hid (HL.out.alloc HL.out.size (.cells zs 25)); have HB3 := Lib.hid h3; clear hb h1 h3)
    | (go_at_call 22; refine (HS.out _ _ (by decide)).mono ?_; rintro e w9 ⟨rfl, hb⟩; have HL := Lib.hid (low0 HL.out hb (Nat.le_refl _)); (first | (have HB1 := Lib.hid (keep0 HB1.out hb)) | skip); have HB3 := Lib.hid (keep0 HB3.out hb); clear hb)
    | (go_at_call 21; refine (HO.out _ _).mono ?_; rintro e w9 ⟨rfl, hb⟩; have HL := Lib.hid (low0 HL.out hb (Nat.le_refl _)); have HB1 := Lib.hid (keep0 HB1.out hb); have HB3 := Lib.hid (keep0 HB3.out hb); clear hb)
    | (go_at_call 16; refine (HT.out _ _ (setOfL_ok _)).mono ?_; rintro e w9 ⟨rfl, hb⟩; have HL := Lib.hid (low0 HL.out hb (Nat.le_refl _)); have HB3 := Lib.hid (keep0 HB3.out hb); have l10 := HLB.out _ _ HB3.out; clear hb))
  have HLIM : Hid (∀ W, Below w.heap.size w W → Blk W b1 25 ca → Blk W b3 25 cb → (fun W => Below w.heap.size w W ∧ Blk W b1 25 ca ∧ Blk W b3 25 cb ∧ W.cell? ⟨b1, 256, none⟩ = some (.int .i64 1) ∧ W.cell? ⟨b3, 256, none⟩ = some (.int .i64 3) ∧ W.cell? ⟨b3, 97, none⟩ = some (.int .u8 1) ∧ W.cell? ⟨b3, 98, none⟩ = some (.int .u8 2) ∧ W.cell? ⟨b3, 99, none⟩ = some (.int .u8 0) ∧ W.cell? ⟨b3, 0, none⟩ = some (.int .u8 0) ∧ (LoadCl (.pointer (some ⟨b3, 0, none⟩))).run Try.prog W = .ok (.agg cb) W) W) := fun W h0 h1 h3 => ⟨h0, h1, h3, (h1.cell 256).trans HCA.out, (h3.cell 256).trans HCB.out.1, (h3.cell 97).trans HCB.out.2.1, (h3.cell 98).trans HCB.out.2.2.1, (h3.cell 99).trans HCB.out.2.2.2.1, (h3.cell 0).trans HCB.out.2.2.2.2, HLB.out _ _ h3⟩
  have HB1 := Lib.hid (HB1.out.alloc (.cells zs 25))
  refine wp_region_held_drew (S := (fun W => Below w.heap.size w W ∧ Blk W b1 25 ca ∧ Blk W b3 25 cb ∧ W.cell? ⟨b1, 256, none⟩ = some (.int .i64 1) ∧ W.cell? ⟨b3, 256, none⟩ = some (.int .i64 3) ∧ W.cell? ⟨b3, 97, none⟩ = some (.int .u8 1) ∧ W.cell? ⟨b3, 98, none⟩ = some (.int .u8 2) ∧ W.cell? ⟨b3, 99, none⟩ = some (.int .u8 0) ∧ W.cell? ⟨b3, 0, none⟩ = some (.int .u8 0) ∧ (LoadCl (.pointer (some ⟨b3, 0, none⟩))).run Try.prog W = .ok (.agg cb) W)) (by kernel_rfl) (HLIM.out _ HL.out.drew HB1.out.drew HB3.out.drew) (fun hS => ?_)
  refine take_val (i := 0) rfl (by kernel_rfl) (by kernel_rfl) (by kernel_rfl) (fun _ _ _ h => h) rfl (fun w hSw => by (try dsimp only at hSw); go_simp; try with_reducible rfl) hS ?_; try simp only [Act.put, List.setIfInBounds_toArray, List.set_cons_zero, List.set_cons_succ]
  refine take_val (i := 1) rfl (by kernel_rfl) (by kernel_rfl) (by kernel_rfl) (fun _ _ _ h => h) rfl (fun w hSw => by (try dsimp only at hSw); go_simp; try with_reducible rfl) hS ?_; try simp only [Act.put, List.setIfInBounds_toArray, List.set_cons_zero, List.set_cons_succ]
  refine take_val (i := 2) rfl (by kernel_rfl) (by kernel_rfl) (by kernel_rfl) (fun _ _ _ h => h) rfl (fun w hSw => by (try dsimp only at hSw); go_simp; try with_reducible rfl) hS ?_; try simp only [Act.put, List.setIfInBounds_toArray, List.set_cons_zero, List.set_cons_succ]
  refine take_val (i := 3) rfl (by kernel_rfl) (by kernel_rfl) (by kernel_rfl) (fun _ _ _ h => h) rfl (fun w hSw => by (try dsimp only at hSw); go_simp; try with_reducible rfl) hS ?_; try simp only [Act.put, List.setIfInBounds_toArray, List.set_cons_zero, List.set_cons_succ]
  refine take_val (i := 4) rfl (by kernel_rfl) (by kernel_rfl) (by kernel_rfl) (fun _ _ _ h => h) rfl (fun w hSw => by (try dsimp only at hSw); go_simp; try with_reducible rfl) hS ?_; try simp only [Act.put, List.setIfInBounds_toArray, List.set_cons_zero, List.set_cons_succ]
  refine take_val (i := 5) rfl (by kernel_rfl) (by kernel_rfl) (by kernel_rfl) (fun _ _ _ h => h) rfl (fun w hSw => by (try dsimp only at hSw); go_simp; try with_reducible rfl) hS ?_; try simp only [Act.put, List.setIfInBounds_toArray, List.set_cons_zero, List.set_cons_succ]
  refine take_val (i := 6) rfl (by kernel_rfl) (by kernel_rfl) (by kernel_rfl) (fun _ _ _ h => h) rfl (fun w hSw => by (try dsimp only at hSw); go_simp; try with_reducible rfl) hS ?_; try simp only [Act.put, List.setIfInBounds_toArray, List.set_cons_zero, List.set_cons_succ]
  refine take_val (i := 7) rfl (by kernel_rfl) (by kernel_rfl) (by kernel_rfl) (fun _ _ _ h => h) rfl (fun w hSw => by (try dsimp only at hSw); go_simp; try with_reducible rfl) hS ?_; try simp only [Act.put, List.setIfInBounds_toArray, List.set_cons_zero, List.set_cons_succ]
  refine take_val (i := 8) rfl (by kernel_rfl) (by kernel_rfl) (by kernel_rfl) (fun _ _ _ h => h) rfl (fun w hSw => by (try dsimp only at hSw); go_simp; try with_reducible rfl) hS ?_; try simp only [Act.put, List.setIfInBounds_toArray, List.set_cons_zero, List.set_cons_succ]
  refine take_val (i := 9) rfl (by kernel_rfl) (by kernel_rfl) (by kernel_rfl) (fun _ _ _ h => h) rfl (fun w hSw => by (try dsimp only at hSw); go_simp; try with_reducible rfl) hS ?_; try simp only [Act.put, List.setIfInBounds_toArray, List.set_cons_zero, List.set_cons_succ]
  refine take_val (i := 10) rfl (by kernel_rfl) (by kernel_rfl) (by kernel_rfl) (fun _ _ _ h => h) rfl (fun w hSw => by (try dsimp only at hSw); go_simp; try with_reducible rfl) hS ?_; try simp only [Act.put, List.setIfInBounds_toArray, List.set_cons_zero, List.set_cons_succ]
  refine take_val (i := 11) rfl (by kernel_rfl) (by kernel_rfl) (by kernel_rfl) (fun _ _ _ h => h) rfl (fun w hSw => by (try dsimp only at hSw); go_simp; try with_reducible rfl) hS ?_; try simp only [Act.put, List.setIfInBounds_toArray, List.set_cons_zero, List.set_cons_succ]
  refine take_val (i := 12) rfl (by kernel_rfl) (by kernel_rfl) (by kernel_rfl) (fun _ _ _ h => h) rfl (fun w hSw => by (try dsimp only at hSw); go_simp; try with_reducible rfl) hS ?_; try simp only [Act.put, List.setIfInBounds_toArray, List.set_cons_zero, List.set_cons_succ]
  refine take_val (i := 13) rfl (by kernel_rfl) (by kernel_rfl) (by kernel_rfl) (fun _ _ _ h => h) rfl (fun w hSw => by (try dsimp only at hSw); go_simp; try with_reducible rfl) hS ?_; try simp only [Act.put, List.setIfInBounds_toArray, List.set_cons_zero, List.set_cons_succ]
  refine take_val (i := 14) rfl (by kernel_rfl) (by kernel_rfl) (by kernel_rfl) (fun _ _ _ h => h) rfl (fun w hSw => by (try dsimp only at hSw); go_simp; try with_reducible rfl) hS ?_; try simp only [Act.put, List.setIfInBounds_toArray, List.set_cons_zero, List.set_cons_succ]
  refine take_val (i := 15) rfl (by kernel_rfl) (by kernel_rfl) (by kernel_rfl) (fun _ _ _ h => h) rfl (fun w hSw => by (try dsimp only at hSw); go_simp; try with_reducible rfl) hS ?_; try simp only [Act.put, List.setIfInBounds_toArray, List.set_cons_zero, List.set_cons_succ]
  refine take_val (i := 16) rfl (by kernel_rfl) (by kernel_rfl) (by kernel_rfl) (fun _ _ _ h => h) rfl (fun w hSw => by (try dsimp only at hSw); go_simp; try with_reducible rfl) hS ?_; try simp only [Act.put, List.setIfInBounds_toArray, List.set_cons_zero, List.set_cons_succ]
  refine take_val (i := 17) rfl (by kernel_rfl) (by kernel_rfl) (by kernel_rfl) (fun _ _ _ h => h) rfl (fun w hSw => by (try dsimp only at hSw); go_simp; try with_reducible rfl) hS ?_; try simp only [Act.put, List.setIfInBounds_toArray, List.set_cons_zero, List.set_cons_succ]
  refine take_val (i := 18) rfl (by kernel_rfl) (by kernel_rfl) (by kernel_rfl) (fun _ _ _ h => h) rfl (fun w hSw => by (try dsimp only at hSw); go_simp; try with_reducible rfl) hS ?_; try simp only [Act.put, List.setIfInBounds_toArray, List.set_cons_zero, List.set_cons_succ]
  refine take_val (i := 19) rfl (by kernel_rfl) (by kernel_rfl) (by kernel_rfl) (fun _ _ _ h => h) rfl (fun w hSw => by (try dsimp only at hSw); go_simp; try with_reducible rfl) hS ?_; try simp only [Act.put, List.setIfInBounds_toArray, List.set_cons_zero, List.set_cons_succ]
  refine take_val (i := 20) rfl (by kernel_rfl) (by kernel_rfl) (by kernel_rfl) (fun _ _ _ h => h) rfl (fun w hSw => by (try dsimp only at hSw); go_simp; try with_reducible rfl) hS ?_; try simp only [Act.put, List.setIfInBounds_toArray, List.set_cons_zero, List.set_cons_succ]
  refine take_val (i := 21) rfl (by kernel_rfl) (by kernel_rfl) (by kernel_rfl) (fun _ _ _ h => h) rfl (fun w hSw => by (try dsimp only at hSw); go_simp; try with_reducible rfl) hS ?_; try simp only [Act.put, List.setIfInBounds_toArray, List.set_cons_zero, List.set_cons_succ]
  refine take_val (i := 22) rfl (by kernel_rfl) (by kernel_rfl) (by kernel_rfl) (fun _ _ _ h => h) rfl (fun w hSw => by (try dsimp only at hSw); go_simp; try with_reducible rfl) hS ?_; try simp only [Act.put, List.setIfInBounds_toArray, List.set_cons_zero, List.set_cons_succ]
  refine take_val (i := 23) rfl (by kernel_rfl) (by kernel_rfl) (by kernel_rfl) (fun _ _ _ h => h) rfl (fun w hSw => by (try dsimp only at hSw); go_simp; try with_reducible rfl) hS ?_; try simp only [Act.put, List.setIfInBounds_toArray, List.set_cons_zero, List.set_cons_succ]
  refine take_val (i := 24) rfl (by kernel_rfl) (by kernel_rfl) (by kernel_rfl) (fun _ _ _ h => h) rfl (fun w hSw => by (try dsimp only at hSw); go_simp; try with_reducible rfl) hS ?_; try simp only [Act.put, List.setIfInBounds_toArray, List.set_cons_zero, List.set_cons_succ]
  refine take_val (i := 25) rfl (by kernel_rfl) (by kernel_rfl) (by kernel_rfl) (fun _ _ _ h => h) rfl (fun w hSw => by (try dsimp only at hSw); go_simp; try with_reducible rfl) hS ?_; try simp only [Act.put, List.setIfInBounds_toArray, List.set_cons_zero, List.set_cons_succ]
  refine take_val (i := 26) rfl (by kernel_rfl) (by kernel_rfl) (by kernel_rfl) (fun _ _ _ h => h) rfl (fun w hSw => by (try dsimp only at hSw); go_simp; try with_reducible rfl) hS ?_; try simp only [Act.put, List.setIfInBounds_toArray, List.set_cons_zero, List.set_cons_succ]
  refine take_val (i := 27) rfl (by kernel_rfl) (by kernel_rfl) (by kernel_rfl) (fun _ _ _ h => h) rfl (fun w hSw => by (try dsimp only at hSw); go_simp; try with_reducible rfl) hS ?_; try simp only [Act.put, List.setIfInBounds_toArray, List.set_cons_zero, List.set_cons_succ]
  refine take_val (i := 28) rfl (by kernel_rfl) (by kernel_rfl) (by kernel_rfl) (fun _ _ _ h => h) rfl (fun w hSw => by (try dsimp only at hSw); go_simp; try with_reducible rfl) hS ?_; try simp only [Act.put, List.setIfInBounds_toArray, List.set_cons_zero, List.set_cons_succ]
  refine take_val (i := 29) rfl (by kernel_rfl) (by kernel_rfl) (by kernel_rfl) (fun _ _ _ h => h) rfl (fun w hSw => by (try dsimp only at hSw); go_simp; try with_reducible rfl) hS ?_; try simp only [Act.put, List.setIfInBounds_toArray, List.set_cons_zero, List.set_cons_succ]
  refine take_val (i := 30) rfl (by kernel_rfl) (by kernel_rfl) (by kernel_rfl) (fun _ _ _ h => h) rfl (fun w hSw => by (try dsimp only at hSw); go_simp; try with_reducible rfl) hS ?_; try simp only [Act.put, List.setIfInBounds_toArray, List.set_cons_zero, List.set_cons_succ]
  refine take_val (i := 31) rfl (by kernel_rfl) (by kernel_rfl) (by kernel_rfl) (fun _ _ _ h => h) rfl (fun w hSw => by (try dsimp only at hSw); go_simp; try with_reducible rfl) hS ?_; try simp only [Act.put, List.setIfInBounds_toArray, List.set_cons_zero, List.set_cons_succ]
  refine take_val (i := 32) rfl (by kernel_rfl) (by kernel_rfl) (by kernel_rfl) (fun _ _ _ h => h) rfl (fun w hSw => by (try dsimp only at hSw); go_simp; try with_reducible rfl) hS ?_; try simp only [Act.put, List.setIfInBounds_toArray, List.set_cons_zero, List.set_cons_succ]
  refine take_val (i := 33) rfl (by kernel_rfl) (by kernel_rfl) (by kernel_rfl) (fun _ _ _ h => h) rfl (fun w hSw => by (try dsimp only at hSw); go_simp; try with_reducible rfl) hS ?_; try simp only [Act.put, List.setIfInBounds_toArray, List.set_cons_zero, List.set_cons_succ]
  refine take_val (i := 34) rfl (by kernel_rfl) (by kernel_rfl) (by kernel_rfl) (fun _ _ _ h => h) rfl (fun w hSw => by (try dsimp only at hSw); go_simp; try with_reducible rfl) hS ?_; try simp only [Act.put, List.setIfInBounds_toArray, List.set_cons_zero, List.set_cons_succ]
  refine take_val (i := 35) rfl (by kernel_rfl) (by kernel_rfl) (by kernel_rfl) (fun _ _ _ h => h) rfl (fun w hSw => by (try dsimp only at hSw); go_simp; try with_reducible rfl) hS ?_; try simp only [Act.put, List.setIfInBounds_toArray, List.set_cons_zero, List.set_cons_succ]
  refine take_val (i := 36) rfl (by kernel_rfl) (by kernel_rfl) (by kernel_rfl) (fun _ _ _ h => h) rfl (fun w hSw => by (try dsimp only at hSw); go_simp; try with_reducible rfl) hS ?_; try simp only [Act.put, List.setIfInBounds_toArray, List.set_cons_zero, List.set_cons_succ]
  refine take_val (i := 37) rfl (by kernel_rfl) (by kernel_rfl) (by kernel_rfl) (fun _ _ _ h => h) rfl (fun w hSw => by (try dsimp only at hSw); go_simp; try with_reducible rfl) hS ?_; try simp only [Act.put, List.setIfInBounds_toArray, List.set_cons_zero, List.set_cons_succ]
  refine take_val (i := 38) rfl (by kernel_rfl) (by kernel_rfl) (by kernel_rfl) (fun _ _ _ h => h) rfl (fun w hSw => by (try dsimp only at hSw); go_simp; try with_reducible rfl) hS ?_; try simp only [Act.put, List.setIfInBounds_toArray, List.set_cons_zero, List.set_cons_succ]
  refine take_val (i := 39) rfl (by kernel_rfl) (by kernel_rfl) (by kernel_rfl) (fun _ _ _ h => h) rfl (fun w hSw => by (try dsimp only at hSw); go_simp; try with_reducible rfl) hS ?_; try simp only [Act.put, List.setIfInBounds_toArray, List.set_cons_zero, List.set_cons_succ]
  refine take_val (i := 40) rfl (by kernel_rfl) (by kernel_rfl) (by kernel_rfl) (fun _ _ _ h => h) rfl (fun w hSw => by (try dsimp only at hSw); go_simp; try with_reducible rfl) hS ?_; try simp only [Act.put, List.setIfInBounds_toArray, List.set_cons_zero, List.set_cons_succ]
  refine take_val (i := 41) rfl (by kernel_rfl) (by kernel_rfl) (by kernel_rfl) (fun _ _ _ h => h) rfl (fun w hSw => by (try dsimp only at hSw); go_simp; try with_reducible rfl) hS ?_; try simp only [Act.put, List.setIfInBounds_toArray, List.set_cons_zero, List.set_cons_succ]
  refine take_val (i := 42) rfl (by kernel_rfl) (by kernel_rfl) (by kernel_rfl) (fun _ _ _ h => h) rfl (fun w hSw => by (try dsimp only at hSw); go_simp; try with_reducible rfl) hS ?_; try simp only [Act.put, List.setIfInBounds_toArray, List.set_cons_zero, List.set_cons_succ]
  refine take_val (i := 43) rfl (by kernel_rfl) (by kernel_rfl) (by kernel_rfl) (fun _ _ _ h => h) rfl (fun w hSw => by (try dsimp only at hSw); go_simp; try with_reducible rfl) hS ?_; try simp only [Act.put, List.setIfInBounds_toArray, List.set_cons_zero, List.set_cons_succ]
  refine take_val (i := 44) rfl (by kernel_rfl) (by kernel_rfl) (by kernel_rfl) (fun _ _ _ h => h) rfl (fun w hSw => by (try dsimp only at hSw); go_simp; try with_reducible rfl) hS ?_; try simp only [Act.put, List.setIfInBounds_toArray, List.set_cons_zero, List.set_cons_succ]
  refine take_val (i := 45) rfl (by kernel_rfl) (by kernel_rfl) (by kernel_rfl) (fun _ _ _ h => h) rfl (fun w hSw => by (try dsimp only at hSw); go_simp; try with_reducible rfl) hS ?_; try simp only [Act.put, List.setIfInBounds_toArray, List.set_cons_zero, List.set_cons_succ]
  refine take_val (i := 46) rfl (by kernel_rfl) (by kernel_rfl) (by kernel_rfl) (fun _ _ _ h => h) rfl (fun w hSw => by (try dsimp only at hSw); go_simp; try with_reducible rfl) hS ?_; try simp only [Act.put, List.setIfInBounds_toArray, List.set_cons_zero, List.set_cons_succ]
  refine take_val (i := 47) rfl (by kernel_rfl) (by kernel_rfl) (by kernel_rfl) (fun _ _ _ h => h) rfl (fun w hSw => by (try dsimp only at hSw); go_simp; try with_reducible rfl) hS ?_; try simp only [Act.put, List.setIfInBounds_toArray, List.set_cons_zero, List.set_cons_succ]
  refine take_val (i := 48) rfl (by kernel_rfl) (by kernel_rfl) (by kernel_rfl) (fun _ _ _ h => h) rfl (fun w hSw => by (try dsimp only at hSw); go_simp; try with_reducible rfl) hS ?_; try simp only [Act.put, List.setIfInBounds_toArray, List.set_cons_zero, List.set_cons_succ]
  refine take_val (i := 49) rfl (by kernel_rfl) (by kernel_rfl) (by kernel_rfl) (fun _ _ _ h => h) rfl (fun w hSw => by (try dsimp only at hSw); go_simp; try with_reducible rfl) hS ?_; try simp only [Act.put, List.setIfInBounds_toArray, List.set_cons_zero, List.set_cons_succ]
  refine take_val (i := 50) rfl (by kernel_rfl) (by kernel_rfl) (by kernel_rfl) (fun _ _ _ h => h) rfl (fun w hSw => by (try dsimp only at hSw); go_simp; try with_reducible rfl) hS ?_; try simp only [Act.put, List.setIfInBounds_toArray, List.set_cons_zero, List.set_cons_succ]
  refine take_val (i := 51) rfl (by kernel_rfl) (by kernel_rfl) (by kernel_rfl) (fun _ _ _ h => h) rfl (fun w hSw => by (try dsimp only at hSw); go_simp; try with_reducible rfl) hS ?_; try simp only [Act.put, List.setIfInBounds_toArray, List.set_cons_zero, List.set_cons_succ]
  refine take_val (i := 52) rfl (by kernel_rfl) (by kernel_rfl) (by kernel_rfl) (fun _ _ _ h => h) rfl (fun w hSw => by (try dsimp only at hSw); go_simp; try with_reducible rfl) hS ?_; try simp only [Act.put, List.setIfInBounds_toArray, List.set_cons_zero, List.set_cons_succ]
  refine take_val (i := 53) rfl (by kernel_rfl) (by kernel_rfl) (by kernel_rfl) (fun _ _ _ h => h) rfl (fun w hSw => by (try dsimp only at hSw); go_simp; try with_reducible rfl) hS ?_; try simp only [Act.put, List.setIfInBounds_toArray, List.set_cons_zero, List.set_cons_succ]
  refine take_val (i := 54) rfl (by kernel_rfl) (by kernel_rfl) (by kernel_rfl) (fun _ _ _ h => h) rfl (fun w hSw => by (try dsimp only at hSw); go_simp; try with_reducible rfl) hS ?_; try simp only [Act.put, List.setIfInBounds_toArray, List.set_cons_zero, List.set_cons_succ]
  refine take_val (i := 55) rfl (by kernel_rfl) (by kernel_rfl) (by kernel_rfl) (fun _ _ _ h => h) rfl (fun w hSw => by (try dsimp only at hSw); go_simp; try with_reducible rfl) hS ?_; try simp only [Act.put, List.setIfInBounds_toArray, List.set_cons_zero, List.set_cons_succ]
  refine take_val (i := 56) rfl (by kernel_rfl) (by kernel_rfl) (by kernel_rfl) (fun _ _ _ h => h) rfl (fun w hSw => by (try dsimp only at hSw); go_simp; try with_reducible rfl) hS ?_; try simp only [Act.put, List.setIfInBounds_toArray, List.set_cons_zero, List.set_cons_succ]
  refine take_val (i := 57) rfl (by kernel_rfl) (by kernel_rfl) (by kernel_rfl) (fun _ _ _ h => h) rfl (fun w hSw => by (try dsimp only at hSw); go_simp; try with_reducible rfl) hS ?_; try simp only [Act.put, List.setIfInBounds_toArray, List.set_cons_zero, List.set_cons_succ]
  refine take_call (i := 58) rfl (by kernel_rfl) rfl (fun K hK => ?_)
  go_simp; refine (HS.out _ _ (by decide)).mono ?_; rintro e w2 ⟨rfl, hb2⟩; go_wp2_with fail
  refine hK.out _ _ (HLIM.out _ (low0 hS.1 hb2 (Nat.le_refl _)) (keep0 hS.2.1 hb2) (keep0 hS.2.2.1 hb2)) (fun hS => ?_); clear hK K; try simp only [Act.put, List.setIfInBounds_toArray, List.set_cons_zero, List.set_cons_succ]
  refine take_call (i := 59) rfl (by kernel_rfl) rfl (fun K hK => ?_)
  go_simp; refine (HT.out _ _ (setOfL_ok _)).mono ?_; rintro e w2 ⟨rfl, hb2⟩; go_wp2_with fail
  refine hK.out _ _ (HLIM.out _ (low0 hS.1 hb2 (Nat.le_refl _)) (keep0 hS.2.1 hb2) (keep0 hS.2.2.1 hb2)) (fun hS => ?_); clear hK K; try simp only [Act.put, List.setIfInBounds_toArray, List.set_cons_zero, List.set_cons_succ]
  refine take_val (i := 60) rfl (by kernel_rfl) (by kernel_rfl) (by kernel_rfl) (fun _ _ _ h => h) rfl (fun w hSw => by (try dsimp only at hSw); go_simp; try with_reducible rfl) hS ?_; try simp only [Act.put, List.setIfInBounds_toArray, List.set_cons_zero, List.set_cons_succ]
  refine take_val (i := 61) rfl (by kernel_rfl) (by kernel_rfl) (by kernel_rfl) (fun _ _ _ h => h) rfl (fun w hSw => by (try dsimp only at hSw); go_simp; try with_reducible rfl) hS ?_; try simp only [Act.put, List.setIfInBounds_toArray, List.set_cons_zero, List.set_cons_succ]
  refine take_val (i := 62) rfl (by kernel_rfl) (by kernel_rfl) (by kernel_rfl) (fun _ _ _ h => h) rfl (fun w hSw => by (try dsimp only at hSw); go_simp; try with_reducible rfl) hS ?_; try simp only [Act.put, List.setIfInBounds_toArray, List.set_cons_zero, List.set_cons_succ]
  refine take_call (i := 63) rfl (by kernel_rfl) rfl (fun K hK => ?_)
  go_simp; refine (HS.out _ _ (by decide)).mono ?_; rintro e w2 ⟨rfl, hb2⟩; go_wp2_with fail
  refine hK.out _ _ (HLIM.out _ (low0 hS.1 hb2 (Nat.le_refl _)) (keep0 hS.2.1 hb2) (keep0 hS.2.2.1 hb2)) (fun hS => ?_); clear hK K; try simp only [Act.put, List.setIfInBounds_toArray, List.set_cons_zero, List.set_cons_succ]
  refine take_call (i := 64) rfl (by kernel_rfl) rfl (fun K hK => ?_)
  go_simp; refine (HT.out _ _ (setOfL_ok _)).mono ?_; rintro e w2 ⟨rfl, hb2⟩; go_wp2_with fail
  refine hK.out _ _ (HLIM.out _ (low0 hS.1 hb2 (Nat.le_refl _)) (keep0 hS.2.1 hb2) (keep0 hS.2.2.1 hb2)) (fun hS => ?_); clear hK K; try simp only [Act.put, List.setIfInBounds_toArray, List.set_cons_zero, List.set_cons_succ]
  refine take_val (i := 65) rfl (by kernel_rfl) (by kernel_rfl) (by kernel_rfl) (fun _ _ _ h => h) rfl (fun w hSw => by (try dsimp only at hSw); go_simp; try with_reducible rfl) hS ?_; try simp only [Act.put, List.setIfInBounds_toArray, List.set_cons_zero, List.set_cons_succ]
  refine take_val (i := 66) rfl (by kernel_rfl) (by kernel_rfl) (by kernel_rfl) (fun _ _ _ h => h) rfl (fun w hSw => by (try dsimp only at hSw); go_simp; try with_reducible rfl) hS ?_; try simp only [Act.put, List.setIfInBounds_toArray, List.set_cons_zero, List.set_cons_succ]
  refine take_val (i := 67) rfl (by kernel_rfl) (by kernel_rfl) (by kernel_rfl) (fun _ _ _ h => h) rfl (fun w hSw => by (try dsimp only at hSw); go_simp; try with_reducible rfl) hS ?_; try simp only [Act.put, List.setIfInBounds_toArray, List.set_cons_zero, List.set_cons_succ]
  refine wpAnyH_done (by kernel_rfl) ?_ _
  have HL := Lib.hid hS.1
  clear hS
  go_wp2
  go_ret
  exact ⟨ret_bool (by decide), HL.out⟩
end Go.Proofs.Ytlaccbkhlkomhaa
