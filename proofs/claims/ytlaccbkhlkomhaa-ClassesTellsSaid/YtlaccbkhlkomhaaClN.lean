/-
  The contract of frankingref06.Right. No conditions but the value's form.
-/
import Derived.Test.YtlaccbkhlkomhaaClM
import Derived.WalkMore
namespace Go.Proofs.Ytlaccbkhlkomhaa
open Go.RowKit

/-- the classes' own box -/
structure BxC (w W : World) (cs : Array Value) (many : Int) : Prop where
  blk : Blk W w.heap.size 25 cs
  low : Below w.heap.size w W
theorem BxC.later {w W W2 : World} {cs : Array Value} {many : Int} (h : BxC w W cs many) (hb : Below W.heap.size W W2) : BxC w W2 cs many :=
  ⟨h.blk.below hb h.blk.lt, h.low.trans (hb.mono h.low.size)⟩
theorem BxC.drew {w W : World} {cs : Array Value} {many : Int} (h : BxC w W cs many) : BxC w W.drew cs many := ⟨h.blk.drew, h.low.drew⟩
theorem BxC.drewN {w W : World} {cs : Array Value} {many : Int} (h : BxC w W cs many) : ∀ n, BxC w (W.drewN n) cs many
  | 0 => h
  | n + 1 => (h.drewN n).drew
theorem BxC.start (w : World) (cs : Array Value) (many : Int) : BxC w (w.alloc (.cells cs 25)) cs many := ⟨Blk.new _ _ _, (Below.refl _ _).alloc (Nat.le_refl _) _⟩
theorem BxC.load {w W : World} {of : List UInt8} {many : Int} (ho : of.length = 256) (h : BxC w W (clCells of many).toArray many) : (LoadCl (.pointer (some ⟨w.heap.size, 0, none⟩))).run Try.prog W = .ok (.agg (clCells of many).toArray) W :=
  run_loadAt_mid W w.heap.size 0 25 (clCells of many) _ (fun j v hv => by
    rw [Nat.zero_add, h.blk.cell]
    simpa using hv) Try.underlying25 rfl (by rw [clCells_len _ _ ho]; kernel_rfl)
theorem all_next {p : Int → Bool} {l : List Int} {k : Nat} (h : k < l.length) (h1 : allB p (l.take k) = true) (h2 : p l[k] = true) : allB p (l.take (k + 1)) = true := by rw [allB_step p l k h, h1, h2]; rfl
attribute [local go_sem ↓] loadCl_eq
set_option maxRecDepth 100000 in
set_option maxHeartbeats 2000000 in
theorem rClRight_any (of : List UInt8) (many : Int) (w : World) (ho : of.length = 256) :
    Calls Try.prog 15 #[.agg (clCells of many).toArray] w fun e w' => e = .returned (.bool (clRightB of many)) ∧ Below w.heap.size w w' := by
  obtain ⟨cs, hcs⟩ : ∃ cs, (clCells of many).toArray = cs := ⟨_, rfl⟩
  have HBX : Hid (BxC w (w.alloc (.cells cs 25)) cs many) := BxC.start w cs many
  have HMN : Hid (∀ W, BxC w W cs many → W.cell? ⟨w.heap.size, 256, none⟩ = some (.int .i64 many)) := fun W hW => by
    rw [hW.blk.cell, ← hcs]
    simpa [intV] using clCells_many of many ho
  have HCL : Hid (∀ W, BxC w W cs many → ∀ k, (h : k < of.length) → W.cell? ⟨w.heap.size, k, none⟩ = some (.int .u8 (of[k].toNat : Int))) := fun W hW k hk => by
    rw [hW.blk.cell, ← hcs]
    simpa [byteV] using clCells_at of many k hk
  have HLIM : Hid (∀ W, BxC w W cs many → BxC w W cs many ∧ (LoadCl (.pointer (some ⟨w.heap.size, 0, none⟩))).run Try.prog W = .ok (.agg cs) W) := fun W hW => ⟨hW, by rw [← hcs] at hW ⊢; exact hW.load ho⟩
  have HLS : Hid (∀ W c, Calls Try.prog 33 #[.agg cs, .int .i64 c] W fun e w' => e = .returned (.int .i64 (leastP of c : Nat)) ∧ Below W.heap.size W w') := fun W c => by
    have := least_any of many c W ho
    rw [hcs] at this
    exact this
  rw [hcs]
  have HO := Lib.hid ho
  have hR := clRef_iff of many ho
  unfold clRef at hR
  clear hcs ho
  generalize clRightB of many = R at *
  have HR := Lib.hid hR
  clear hR
  have hc0 := HMN.out _ HBX.out
  by_cases m1 : many < 1
  · have HR0 : Hid (R = false) := by show _ = _; rw [← HR.out, decide_eq_false (p := 1 ≤ many) (by omega)]; rfl
    go_enter Try.func15, Try.ntmps15
    go_wp2
    go_ret
    exact ⟨ret_bool HR0.out.symm, HBX.out.low⟩
  by_cases m2 : 256 < many
  · have HR0 : Hid (R = false) := by show _ = _; rw [← HR.out, decide_eq_false (p := many ≤ 256) (by omega), Bool.and_false]; rfl
    go_enter Try.func15, Try.ntmps15
    go_wp2
    go_ret
    exact ⟨ret_bool HR0.out.symm, HBX.out.low⟩
  have HR2 : Hid ((allB (· < many) (of.map fun b => (b.toNat : Int)) && (List.range many.toNat).all (clOk of)) = R) := by
    show _ = _
    rw [← HR.out, decide_eq_true (p := 1 ≤ many) (by omega), decide_eq_true (p := many ≤ 256) (by omega)]
    rfl
  clear HR
  have HLM : Hid ((of.map fun b => (b.toNat : Int)).length = 256) := by show _ = _; rw [List.length_map, HO.out]
  go_enter Try.func15, Try.ntmps15
  go_wp2
  clear hc0
  go_loopw [3] (fun i wr => ∃ k : Nat, k ≤ 256 ∧ i = .int .i64 k ∧ Hid (allB (· < many) ((of.map fun b => (b.toNat : Int)).take k) = true) ∧ Hid (BxC w wr cs many)) (fun i _ => 256 - (intOf i).toNat)
  case atStart => exact ⟨0, Nat.zero_le _, rfl, (by show _ = _; rfl), HBX⟩
  case round =>
    obtain ⟨k, hk, rfl, HK, HBR⟩ := hrel
    by_cases hlt : k < 256
    · have hko : k < of.length := by rw [HO.out]; exact hlt
      have hcell := HCL.out _ HBR.out k hko
      have hmany := HMN.out _ HBR.out
      have HYES : Hid (((of[k].toNat : Nat) : Int) < many → allB (· < many) ((of.map fun b => (b.toNat : Int)).take (k + 1)) = true) := fun h => by
        refine all_next (by rw [HLM.out]; exact hlt) HK.out ?_
        rw [List.getElem_map]
        exact decide_eq_true h
      have HNOT : Hid (¬ ((of[k].toNat : Nat) : Int) < many → R = false) := fun h => by
        rw [← HR2.out, allB_no (· < many) _ k (by rw [HLM.out]; exact hlt) (by rw [List.getElem_map]; exact decide_eq_false h)]
        rfl
      have hcb := (of[k]).toNat_lt
      generalize (of[k]).toNat = b at *
      have hlt2 : (k : Int) < 256 := by omega
      by_cases hz : (b : Int) < many
      · have HY := Lib.hid (HYES.out hz)
        have hz2 : ¬ many ≤ (b : Int) := by omega
        clear HYES HNOT HK
        go_wp2
        go_quiet (fail)
        go_wp2
        go_roundw
        case rel => exact ⟨k + 1, by omega, by go_num, HY, HBR.out.drewN nq⟩
        case measure => simp [intOf]; omega
      · have HY := Lib.hid (HNOT.out hz)
        have hz2 : many ≤ (b : Int) := by omega
        clear HYES HNOT HK
        go_wp2
        go_quiet (fail)
        go_wp2
        go_ret
        exact ⟨ret_bool HY.out.symm, (HBR.out.drewN nq).low⟩
    · have hk2 : k = 256 := by omega
      have HALL : Hid (allB (· < many) (of.map fun b => (b.toNat : Int)) = true) := by
        have := HK.out
        rw [List.take_of_length_le (by rw [HLM.out]; omega)] at this
        exact this
      have HR3 : Hid ((List.range many.toNat).all (clOk of) = R) := by
        show _ = _
        rw [← HR2.out, HALL.out]
        rfl
      clear HR2 HALL HK
      have hki : ¬ (k : Int) < 256 := by omega
      clear hk2
      obtain ⟨m, rfl⟩ : ∃ m : Nat, many = m := ⟨many.toNat, by omega⟩
      have HB1 := Lib.hid HBR.out
      go_wp2
      go_loopw [4] (fun i wr => ∃ k : Nat, k ≤ m ∧ i = .int .i64 k ∧ Hid (∀ j, j < k → clOk of j = true) ∧ Hid (BxC w wr cs (m : Int))) (fun i _ => m - (intOf i).toNat)
      case atStart => exact ⟨0, Nat.zero_le _, rfl, (fun j h => absurd h (by omega)), HB1⟩
      case round =>
        clear HBR HB1
        obtain ⟨k, hk, rfl, HK, HBR⟩ := hrel
        have hmany := HMN.out _ HBR.out
        by_cases hlt : k < m
        · have hlt2 : (k : Int) < (m : Int) := by omega
          have HNO : Hid (clOk of k = false → R = false) := fun h => by
            rw [← HR3.out, ← Bool.not_eq_true, List.all_eq_true]
            intro hh
            have := hh k (List.mem_range.2 (by rw [Int.toNat_natCast]; exact hlt))
            rw [h] at this
            cases this
          have HYES : Hid (clOk of k = true → ∀ j, j < k + 1 → clOk of j = true) := fun h j hj => by
            by_cases h2 : j < k
            · exact HK.out j h2
            · have : j = k := by omega
              subst this
              exact h
          have HOK : Hid (clOk of k = (!(leastP of (k : Int) == 256) && !(decide (0 < k) && decide (leastP of (k : Int) < leastP of ((k : Int) - 1))))) := show _ = _ from rfl
          clear HK
          go_wp2
          by_cases h6 : leastP of (k : Int) = 256
          · have HE := Lib.hid (HNO.out (by rw [HOK.out, h6]; rfl))
            have h7 : ((leastP of (k : Int) : Nat) : Int) = 256 := by omega
            clear HNO HYES HOK
            refine wp_region_held_drew (S := (fun W => BxC w W cs (m : Int) ∧ (LoadCl (.pointer (some ⟨w.heap.size, 0, none⟩))).run Try.prog W = .ok (.agg cs) W)) (by kernel_rfl) (HLIM.out _ HBR.out.drew) (fun hS => ?_)
            refine take_val (i := 0) rfl (by kernel_rfl) (by kernel_rfl) (by kernel_rfl) (fun _ _ _ h => h) rfl (fun w hSw => by (try dsimp only at hSw); go_simp; try with_reducible rfl) hS ?_; try simp only [Act.put, List.setIfInBounds_toArray, List.set_cons_zero, List.set_cons_succ]
            refine take_val (i := 1) rfl (by kernel_rfl) (by kernel_rfl) (by kernel_rfl) (fun _ _ _ h => h) rfl (fun w hSw => by (try dsimp only at hSw); go_simp; try with_reducible rfl) hS ?_; try simp only [Act.put, List.setIfInBounds_toArray, List.set_cons_zero, List.set_cons_succ]
            refine take_call (i := 2) rfl (by kernel_rfl) rfl (fun K hK => ?_)
            go_simp; refine (HLS.out _ (k : Int)).mono ?_; rintro e w2 ⟨rfl, hb2⟩; go_wp2_with fail
            refine hK.out _ _ (HLIM.out _ (hS.1.later hb2)) (fun hS => ?_); clear hK K; try simp only [Act.put, List.setIfInBounds_toArray, List.set_cons_zero, List.set_cons_succ]
            refine take_val (i := 3) rfl (by kernel_rfl) (by kernel_rfl) (by kernel_rfl) (fun _ _ _ h => h) rfl (fun w hSw => by (try dsimp only at hSw); go_simp; try with_reducible rfl) hS ?_; try simp only [Act.put, List.setIfInBounds_toArray, List.set_cons_zero, List.set_cons_succ]
            refine take_val (i := 4) rfl (by kernel_rfl) (by kernel_rfl) (by kernel_rfl) (fun _ _ _ h => h) rfl (fun w hSw => by (try dsimp only at hSw); go_simp; try with_reducible rfl) hS ?_; try simp only [Act.put, List.setIfInBounds_toArray, List.set_cons_zero, List.set_cons_succ]
            refine take_skip (i := 5) rfl (by kernel_rfl) (by kernel_rfl) (by kernel_rfl) (fun _ _ _ h => h) rfl hS ?_; try simp only [Act.put, List.setIfInBounds_toArray, List.set_cons_zero, List.set_cons_succ]
            refine take_skip (i := 6) rfl (by kernel_rfl) (by kernel_rfl) (by kernel_rfl) (fun _ _ _ h => h) rfl hS ?_; try simp only [Act.put, List.setIfInBounds_toArray, List.set_cons_zero, List.set_cons_succ]
            refine take_skip (i := 7) rfl (by kernel_rfl) (by kernel_rfl) (by kernel_rfl) (fun _ _ _ h => h) rfl hS ?_; try simp only [Act.put, List.setIfInBounds_toArray, List.set_cons_zero, List.set_cons_succ]
            refine take_skip (i := 8) rfl (by kernel_rfl) (by kernel_rfl) (by kernel_rfl) (fun _ _ _ h => h) rfl hS ?_; try simp only [Act.put, List.setIfInBounds_toArray, List.set_cons_zero, List.set_cons_succ]
            refine take_skip (i := 9) rfl (by kernel_rfl) (by kernel_rfl) (by kernel_rfl) (fun _ _ _ h => h) rfl hS ?_; try simp only [Act.put, List.setIfInBounds_toArray, List.set_cons_zero, List.set_cons_succ]
            refine take_skip (i := 10) rfl (by kernel_rfl) (by kernel_rfl) (by kernel_rfl) (fun _ _ _ h => h) rfl hS ?_; try simp only [Act.put, List.setIfInBounds_toArray, List.set_cons_zero, List.set_cons_succ]
            refine take_skip (i := 11) rfl (by kernel_rfl) (by kernel_rfl) (by kernel_rfl) (fun _ _ _ h => h) rfl hS ?_; try simp only [Act.put, List.setIfInBounds_toArray, List.set_cons_zero, List.set_cons_succ]
            refine take_skip (i := 12) rfl (by kernel_rfl) (by kernel_rfl) (by kernel_rfl) (fun _ _ _ h => h) rfl hS ?_; try simp only [Act.put, List.setIfInBounds_toArray, List.set_cons_zero, List.set_cons_succ]
            refine take_skip (i := 13) rfl (by kernel_rfl) (by kernel_rfl) (by kernel_rfl) (fun _ _ _ h => h) rfl hS ?_; try simp only [Act.put, List.setIfInBounds_toArray, List.set_cons_zero, List.set_cons_succ]
            refine take_skip (i := 14) rfl (by kernel_rfl) (by kernel_rfl) (by kernel_rfl) (fun _ _ _ h => h) rfl hS ?_; try simp only [Act.put, List.setIfInBounds_toArray, List.set_cons_zero, List.set_cons_succ]
            refine take_skip (i := 15) rfl (by kernel_rfl) (by kernel_rfl) (by kernel_rfl) (fun _ _ _ h => h) rfl hS ?_; try simp only [Act.put, List.setIfInBounds_toArray, List.set_cons_zero, List.set_cons_succ]
            refine take_skip (i := 16) rfl (by kernel_rfl) (by kernel_rfl) (by kernel_rfl) (fun _ _ _ h => h) rfl hS ?_; try simp only [Act.put, List.setIfInBounds_toArray, List.set_cons_zero, List.set_cons_succ]
            refine take_val (i := 17) rfl (by kernel_rfl) (by kernel_rfl) (by kernel_rfl) (fun _ _ _ h => h) rfl (fun w hSw => by (try dsimp only at hSw); go_simp; try with_reducible rfl) hS ?_; try simp only [Act.put, List.setIfInBounds_toArray, List.set_cons_zero, List.set_cons_succ]
            refine wpAnyH_done (by kernel_rfl) ?_ _
            have HB5 := Lib.hid hS.1
            clear hS
            go_wp2
            go_ret
            exact ⟨ret_bool HE.out.symm, HB5.out.low⟩
          · have h7 : (((leastP of (k : Int) : Nat) : Int) == 256) = false := by simpa using (fun h => h6 (by omega))
            by_cases h0 : k = 0
            · have h9 : ¬ (0 : Int) < (k : Int) := by omega
              have h8 : ¬ 0 < k := by omega
              have HE := Lib.hid (HYES.out (by rw [HOK.out, decide_eq_false h8]; simpa using h6))
              clear HNO HYES HOK h0
              refine wp_region_held_drew (S := (fun W => BxC w W cs (m : Int) ∧ (LoadCl (.pointer (some ⟨w.heap.size, 0, none⟩))).run Try.prog W = .ok (.agg cs) W)) (by kernel_rfl) (HLIM.out _ HBR.out.drew) (fun hS => ?_)
              refine take_val (i := 0) rfl (by kernel_rfl) (by kernel_rfl) (by kernel_rfl) (fun _ _ _ h => h) rfl (fun w hSw => by (try dsimp only at hSw); go_simp; try with_reducible rfl) hS ?_; try simp only [Act.put, List.setIfInBounds_toArray, List.set_cons_zero, List.set_cons_succ]
              refine take_val (i := 1) rfl (by kernel_rfl) (by kernel_rfl) (by kernel_rfl) (fun _ _ _ h => h) rfl (fun w hSw => by (try dsimp only at hSw); go_simp; try with_reducible rfl) hS ?_; try simp only [Act.put, List.setIfInBounds_toArray, List.set_cons_zero, List.set_cons_succ]
              refine take_call (i := 2) rfl (by kernel_rfl) rfl (fun K hK => ?_)
              go_simp; refine (HLS.out _ (k : Int)).mono ?_; rintro e w2 ⟨rfl, hb2⟩; go_wp2_with fail
              refine hK.out _ _ (HLIM.out _ (hS.1.later hb2)) (fun hS => ?_); clear hK K; try simp only [Act.put, List.setIfInBounds_toArray, List.set_cons_zero, List.set_cons_succ]
              refine take_val (i := 3) rfl (by kernel_rfl) (by kernel_rfl) (by kernel_rfl) (fun _ _ _ h => h) rfl (fun w hSw => by (try dsimp only at hSw); go_simp; try with_reducible rfl) hS ?_; try simp only [Act.put, List.setIfInBounds_toArray, List.set_cons_zero, List.set_cons_succ]
              refine take_val (i := 4) rfl (by kernel_rfl) (by kernel_rfl) (by kernel_rfl) (fun _ _ _ h => h) rfl (fun w hSw => by (try dsimp only at hSw); go_simp; try with_reducible rfl) hS ?_; try simp only [Act.put, List.setIfInBounds_toArray, List.set_cons_zero, List.set_cons_succ]
              refine take_val (i := 5) rfl (by kernel_rfl) (by kernel_rfl) (by kernel_rfl) (fun _ _ _ h => h) rfl (fun w hSw => by (try dsimp only at hSw); go_simp; try with_reducible rfl) hS ?_; try simp only [Act.put, List.setIfInBounds_toArray, List.set_cons_zero, List.set_cons_succ]
              refine take_val (i := 6) rfl (by kernel_rfl) (by kernel_rfl) (by kernel_rfl) (fun _ _ _ h => h) rfl (fun w hSw => by (try dsimp only at hSw); go_simp; try with_reducible rfl) hS ?_; try simp only [Act.put, List.setIfInBounds_toArray, List.set_cons_zero, List.set_cons_succ]
              refine take_val (i := 7) rfl (by kernel_rfl) (by kernel_rfl) (by kernel_rfl) (fun _ _ _ h => h) rfl (fun w hSw => by (try dsimp only at hSw); go_simp; try with_reducible rfl) hS ?_; try simp only [Act.put, List.setIfInBounds_toArray, List.set_cons_zero, List.set_cons_succ]
              refine take_skip (i := 8) rfl (by kernel_rfl) (by kernel_rfl) (by kernel_rfl) (fun _ _ _ h => h) rfl hS ?_; try simp only [Act.put, List.setIfInBounds_toArray, List.set_cons_zero, List.set_cons_succ]
              refine take_skip (i := 9) rfl (by kernel_rfl) (by kernel_rfl) (by kernel_rfl) (fun _ _ _ h => h) rfl hS ?_; try simp only [Act.put, List.setIfInBounds_toArray, List.set_cons_zero, List.set_cons_succ]
              refine take_skip (i := 10) rfl (by kernel_rfl) (by kernel_rfl) (by kernel_rfl) (fun _ _ _ h => h) rfl hS ?_; try simp only [Act.put, List.setIfInBounds_toArray, List.set_cons_zero, List.set_cons_succ]
              refine take_skip (i := 11) rfl (by kernel_rfl) (by kernel_rfl) (by kernel_rfl) (fun _ _ _ h => h) rfl hS ?_; try simp only [Act.put, List.setIfInBounds_toArray, List.set_cons_zero, List.set_cons_succ]
              refine take_skip (i := 12) rfl (by kernel_rfl) (by kernel_rfl) (by kernel_rfl) (fun _ _ _ h => h) rfl hS ?_; try simp only [Act.put, List.setIfInBounds_toArray, List.set_cons_zero, List.set_cons_succ]
              refine take_skip (i := 13) rfl (by kernel_rfl) (by kernel_rfl) (by kernel_rfl) (fun _ _ _ h => h) rfl hS ?_; try simp only [Act.put, List.setIfInBounds_toArray, List.set_cons_zero, List.set_cons_succ]
              refine take_skip (i := 14) rfl (by kernel_rfl) (by kernel_rfl) (by kernel_rfl) (fun _ _ _ h => h) rfl hS ?_; try simp only [Act.put, List.setIfInBounds_toArray, List.set_cons_zero, List.set_cons_succ]
              refine take_skip (i := 15) rfl (by kernel_rfl) (by kernel_rfl) (by kernel_rfl) (fun _ _ _ h => h) rfl hS ?_; try simp only [Act.put, List.setIfInBounds_toArray, List.set_cons_zero, List.set_cons_succ]
              refine take_val (i := 16) rfl (by kernel_rfl) (by kernel_rfl) (by kernel_rfl) (fun _ _ _ h => h) rfl (fun w hSw => by (try dsimp only at hSw); go_simp; try with_reducible rfl) hS ?_; try simp only [Act.put, List.setIfInBounds_toArray, List.set_cons_zero, List.set_cons_succ]
              refine take_val (i := 17) rfl (by kernel_rfl) (by kernel_rfl) (by kernel_rfl) (fun _ _ _ h => h) rfl (fun w hSw => by (try dsimp only at hSw); go_simp; try with_reducible rfl) hS ?_; try simp only [Act.put, List.setIfInBounds_toArray, List.set_cons_zero, List.set_cons_succ]
              refine wpAnyH_done (by kernel_rfl) ?_ _
              have HB5 := Lib.hid hS.1
              clear hS
              go_wp2
              go_roundw
              case rel => exact ⟨k + 1, by omega, by go_num, HE, HB5⟩
              case measure => simp [intOf]; omega
            · have h8 : 0 < k := by omega
              have h9 : (0 : Int) < (k : Int) := by omega
              have f1 : IntKind.i64.wrap ((k : Int) - 1) = (k : Int) - 1 := IntWalk.i64_in _ (by omega)
              by_cases hl : leastP of (k : Int) < leastP of ((k : Int) - 1)
              · have HE := Lib.hid (HNO.out (by rw [HOK.out, decide_eq_true h8, decide_eq_true hl]; simp))
                have hl2 : ((leastP of (k : Int) : Nat) : Int) < ((leastP of ((k : Int) - 1) : Nat) : Int) := by omega
                clear HNO HYES HOK
                refine wp_region_held_drew (S := (fun W => BxC w W cs (m : Int) ∧ (LoadCl (.pointer (some ⟨w.heap.size, 0, none⟩))).run Try.prog W = .ok (.agg cs) W)) (by kernel_rfl) (HLIM.out _ HBR.out.drew) (fun hS => ?_)
                refine take_val (i := 0) rfl (by kernel_rfl) (by kernel_rfl) (by kernel_rfl) (fun _ _ _ h => h) rfl (fun w hSw => by (try dsimp only at hSw); go_simp; try with_reducible rfl) hS ?_; try simp only [Act.put, List.setIfInBounds_toArray, List.set_cons_zero, List.set_cons_succ]
                refine take_val (i := 1) rfl (by kernel_rfl) (by kernel_rfl) (by kernel_rfl) (fun _ _ _ h => h) rfl (fun w hSw => by (try dsimp only at hSw); go_simp; try with_reducible rfl) hS ?_; try simp only [Act.put, List.setIfInBounds_toArray, List.set_cons_zero, List.set_cons_succ]
                refine take_call (i := 2) rfl (by kernel_rfl) rfl (fun K hK => ?_)
                go_simp; refine (HLS.out _ (k : Int)).mono ?_; rintro e w2 ⟨rfl, hb2⟩; go_wp2_with fail
                refine hK.out _ _ (HLIM.out _ (hS.1.later hb2)) (fun hS => ?_); clear hK K; try simp only [Act.put, List.setIfInBounds_toArray, List.set_cons_zero, List.set_cons_succ]
                refine take_val (i := 3) rfl (by kernel_rfl) (by kernel_rfl) (by kernel_rfl) (fun _ _ _ h => h) rfl (fun w hSw => by (try dsimp only at hSw); go_simp; try with_reducible rfl) hS ?_; try simp only [Act.put, List.setIfInBounds_toArray, List.set_cons_zero, List.set_cons_succ]
                refine take_val (i := 4) rfl (by kernel_rfl) (by kernel_rfl) (by kernel_rfl) (fun _ _ _ h => h) rfl (fun w hSw => by (try dsimp only at hSw); go_simp; try with_reducible rfl) hS ?_; try simp only [Act.put, List.setIfInBounds_toArray, List.set_cons_zero, List.set_cons_succ]
                refine take_val (i := 5) rfl (by kernel_rfl) (by kernel_rfl) (by kernel_rfl) (fun _ _ _ h => h) rfl (fun w hSw => by (try dsimp only at hSw); go_simp; try with_reducible rfl) hS ?_; try simp only [Act.put, List.setIfInBounds_toArray, List.set_cons_zero, List.set_cons_succ]
                refine take_val (i := 6) rfl (by kernel_rfl) (by kernel_rfl) (by kernel_rfl) (fun _ _ _ h => h) rfl (fun w hSw => by (try dsimp only at hSw); go_simp; try with_reducible rfl) hS ?_; try simp only [Act.put, List.setIfInBounds_toArray, List.set_cons_zero, List.set_cons_succ]
                refine take_val (i := 7) rfl (by kernel_rfl) (by kernel_rfl) (by kernel_rfl) (fun _ _ _ h => h) rfl (fun w hSw => by (try dsimp only at hSw); go_simp; try with_reducible rfl) hS ?_; try simp only [Act.put, List.setIfInBounds_toArray, List.set_cons_zero, List.set_cons_succ]
                refine take_val (i := 8) rfl (by kernel_rfl) (by kernel_rfl) (by kernel_rfl) (fun _ _ _ h => h) rfl (fun w hSw => by (try dsimp only at hSw); go_simp; try with_reducible rfl) hS ?_; try simp only [Act.put, List.setIfInBounds_toArray, List.set_cons_zero, List.set_cons_succ]
                refine take_val (i := 9) rfl (by kernel_rfl) (by kernel_rfl) (by kernel_rfl) (fun _ _ _ h => h) rfl (fun w hSw => by (try dsimp only at hSw); go_simp; try with_reducible rfl) hS ?_; try simp only [Act.put, List.setIfInBounds_toArray, List.set_cons_zero, List.set_cons_succ]
                refine take_val (i := 11) rfl (by kernel_rfl) (by kernel_rfl) (by kernel_rfl) (fun _ _ _ h => h) rfl (fun w hSw => by (try dsimp only at hSw); go_simp; try with_reducible rfl) hS ?_; try simp only [Act.put, List.setIfInBounds_toArray, List.set_cons_zero, List.set_cons_succ]
                refine take_val (i := 12) rfl (by kernel_rfl) (by kernel_rfl) (by kernel_rfl) (fun _ _ _ h => h) rfl (fun w hSw => by (try dsimp only at hSw); go_simp; try with_reducible rfl) hS ?_; try simp only [Act.put, List.setIfInBounds_toArray, List.set_cons_zero, List.set_cons_succ]
                refine take_val (i := 13) rfl (by kernel_rfl) (by kernel_rfl) (by kernel_rfl) (fun _ _ _ h => h) rfl (fun w hSw => by (try dsimp only at hSw); go_simp; try with_reducible rfl) hS ?_; try simp only [Act.put, List.setIfInBounds_toArray, List.set_cons_zero, List.set_cons_succ]
                refine take_call (i := 10) rfl (by kernel_rfl) rfl (fun K hK => ?_)
                go_simp; refine (HLS.out _ (k : Int)).mono ?_; rintro e w3 ⟨rfl, hb3⟩; go_wp2_with fail
                refine hK.out _ _ (HLIM.out _ (hS.1.later hb3)) (fun hS => ?_); clear hK K; try simp only [Act.put, List.setIfInBounds_toArray, List.set_cons_zero, List.set_cons_succ]
                refine take_call (i := 14) rfl (by kernel_rfl) rfl (fun K hK => ?_)
                go_simp; refine (HLS.out _ ((k : Int) - 1)).mono ?_; rintro e w4 ⟨rfl, hb4⟩; go_wp2_with fail
                refine hK.out _ _ (HLIM.out _ (hS.1.later hb4)) (fun hS => ?_); clear hK K; try simp only [Act.put, List.setIfInBounds_toArray, List.set_cons_zero, List.set_cons_succ]
                refine take_val (i := 15) rfl (by kernel_rfl) (by kernel_rfl) (by kernel_rfl) (fun _ _ _ h => h) rfl (fun w hSw => by (try dsimp only at hSw); go_simp; try with_reducible rfl) hS ?_; try simp only [Act.put, List.setIfInBounds_toArray, List.set_cons_zero, List.set_cons_succ]
                refine take_val (i := 16) rfl (by kernel_rfl) (by kernel_rfl) (by kernel_rfl) (fun _ _ _ h => h) rfl (fun w hSw => by (try dsimp only at hSw); go_simp; try with_reducible rfl) hS ?_; try simp only [Act.put, List.setIfInBounds_toArray, List.set_cons_zero, List.set_cons_succ]
                refine take_val (i := 17) rfl (by kernel_rfl) (by kernel_rfl) (by kernel_rfl) (fun _ _ _ h => h) rfl (fun w hSw => by (try dsimp only at hSw); go_simp; try with_reducible rfl) hS ?_; try simp only [Act.put, List.setIfInBounds_toArray, List.set_cons_zero, List.set_cons_succ]
                refine wpAnyH_done (by kernel_rfl) ?_ _
                have HB5 := Lib.hid hS.1
                clear hS
                go_wp2
                go_ret
                exact ⟨ret_bool HE.out.symm, HB5.out.low⟩
              · have HE := Lib.hid (HYES.out (by rw [HOK.out, decide_eq_false hl]; simpa using h6))
                have hl2 : ¬ ((leastP of (k : Int) : Nat) : Int) < ((leastP of ((k : Int) - 1) : Nat) : Int) := by omega
                clear HNO HYES HOK
                refine wp_region_held_drew (S := (fun W => BxC w W cs (m : Int) ∧ (LoadCl (.pointer (some ⟨w.heap.size, 0, none⟩))).run Try.prog W = .ok (.agg cs) W)) (by kernel_rfl) (HLIM.out _ HBR.out.drew) (fun hS => ?_)
                refine take_val (i := 0) rfl (by kernel_rfl) (by kernel_rfl) (by kernel_rfl) (fun _ _ _ h => h) rfl (fun w hSw => by (try dsimp only at hSw); go_simp; try with_reducible rfl) hS ?_; try simp only [Act.put, List.setIfInBounds_toArray, List.set_cons_zero, List.set_cons_succ]
                refine take_val (i := 1) rfl (by kernel_rfl) (by kernel_rfl) (by kernel_rfl) (fun _ _ _ h => h) rfl (fun w hSw => by (try dsimp only at hSw); go_simp; try with_reducible rfl) hS ?_; try simp only [Act.put, List.setIfInBounds_toArray, List.set_cons_zero, List.set_cons_succ]
                refine take_call (i := 2) rfl (by kernel_rfl) rfl (fun K hK => ?_)
                go_simp; refine (HLS.out _ (k : Int)).mono ?_; rintro e w2 ⟨rfl, hb2⟩; go_wp2_with fail
                refine hK.out _ _ (HLIM.out _ (hS.1.later hb2)) (fun hS => ?_); clear hK K; try simp only [Act.put, List.setIfInBounds_toArray, List.set_cons_zero, List.set_cons_succ]
                refine take_val (i := 3) rfl (by kernel_rfl) (by kernel_rfl) (by kernel_rfl) (fun _ _ _ h => h) rfl (fun w hSw => by (try dsimp only at hSw); go_simp; try with_reducible rfl) hS ?_; try simp only [Act.put, List.setIfInBounds_toArray, List.set_cons_zero, List.set_cons_succ]
                refine take_val (i := 4) rfl (by kernel_rfl) (by kernel_rfl) (by kernel_rfl) (fun _ _ _ h => h) rfl (fun w hSw => by (try dsimp only at hSw); go_simp; try with_reducible rfl) hS ?_; try simp only [Act.put, List.setIfInBounds_toArray, List.set_cons_zero, List.set_cons_succ]
                refine take_val (i := 5) rfl (by kernel_rfl) (by kernel_rfl) (by kernel_rfl) (fun _ _ _ h => h) rfl (fun w hSw => by (try dsimp only at hSw); go_simp; try with_reducible rfl) hS ?_; try simp only [Act.put, List.setIfInBounds_toArray, List.set_cons_zero, List.set_cons_succ]
                refine take_val (i := 6) rfl (by kernel_rfl) (by kernel_rfl) (by kernel_rfl) (fun _ _ _ h => h) rfl (fun w hSw => by (try dsimp only at hSw); go_simp; try with_reducible rfl) hS ?_; try simp only [Act.put, List.setIfInBounds_toArray, List.set_cons_zero, List.set_cons_succ]
                refine take_val (i := 7) rfl (by kernel_rfl) (by kernel_rfl) (by kernel_rfl) (fun _ _ _ h => h) rfl (fun w hSw => by (try dsimp only at hSw); go_simp; try with_reducible rfl) hS ?_; try simp only [Act.put, List.setIfInBounds_toArray, List.set_cons_zero, List.set_cons_succ]
                refine take_val (i := 8) rfl (by kernel_rfl) (by kernel_rfl) (by kernel_rfl) (fun _ _ _ h => h) rfl (fun w hSw => by (try dsimp only at hSw); go_simp; try with_reducible rfl) hS ?_; try simp only [Act.put, List.setIfInBounds_toArray, List.set_cons_zero, List.set_cons_succ]
                refine take_val (i := 9) rfl (by kernel_rfl) (by kernel_rfl) (by kernel_rfl) (fun _ _ _ h => h) rfl (fun w hSw => by (try dsimp only at hSw); go_simp; try with_reducible rfl) hS ?_; try simp only [Act.put, List.setIfInBounds_toArray, List.set_cons_zero, List.set_cons_succ]
                refine take_val (i := 11) rfl (by kernel_rfl) (by kernel_rfl) (by kernel_rfl) (fun _ _ _ h => h) rfl (fun w hSw => by (try dsimp only at hSw); go_simp; try with_reducible rfl) hS ?_; try simp only [Act.put, List.setIfInBounds_toArray, List.set_cons_zero, List.set_cons_succ]
                refine take_val (i := 12) rfl (by kernel_rfl) (by kernel_rfl) (by kernel_rfl) (fun _ _ _ h => h) rfl (fun w hSw => by (try dsimp only at hSw); go_simp; try with_reducible rfl) hS ?_; try simp only [Act.put, List.setIfInBounds_toArray, List.set_cons_zero, List.set_cons_succ]
                refine take_val (i := 13) rfl (by kernel_rfl) (by kernel_rfl) (by kernel_rfl) (fun _ _ _ h => h) rfl (fun w hSw => by (try dsimp only at hSw); go_simp; try with_reducible rfl) hS ?_; try simp only [Act.put, List.setIfInBounds_toArray, List.set_cons_zero, List.set_cons_succ]
                refine take_call (i := 10) rfl (by kernel_rfl) rfl (fun K hK => ?_)
                go_simp; refine (HLS.out _ (k : Int)).mono ?_; rintro e w3 ⟨rfl, hb3⟩; go_wp2_with fail
                refine hK.out _ _ (HLIM.out _ (hS.1.later hb3)) (fun hS => ?_); clear hK K; try simp only [Act.put, List.setIfInBounds_toArray, List.set_cons_zero, List.set_cons_succ]
                refine take_call (i := 14) rfl (by kernel_rfl) rfl (fun K hK => ?_)
                go_simp; refine (HLS.out _ ((k : Int) - 1)).mono ?_; rintro e w4 ⟨rfl, hb4⟩; go_wp2_with fail
                refine hK.out _ _ (HLIM.out _ (hS.1.later hb4)) (fun hS => ?_); clear hK K; try simp only [Act.put, List.setIfInBounds_toArray, List.set_cons_zero, List.set_cons_succ]
                refine take_val (i := 15) rfl (by kernel_rfl) (by kernel_rfl) (by kernel_rfl) (fun _ _ _ h => h) rfl (fun w hSw => by (try dsimp only at hSw); go_simp; try with_reducible rfl) hS ?_; try simp only [Act.put, List.setIfInBounds_toArray, List.set_cons_zero, List.set_cons_succ]
                refine take_val (i := 16) rfl (by kernel_rfl) (by kernel_rfl) (by kernel_rfl) (fun _ _ _ h => h) rfl (fun w hSw => by (try dsimp only at hSw); go_simp; try with_reducible rfl) hS ?_; try simp only [Act.put, List.setIfInBounds_toArray, List.set_cons_zero, List.set_cons_succ]
                refine take_val (i := 17) rfl (by kernel_rfl) (by kernel_rfl) (by kernel_rfl) (fun _ _ _ h => h) rfl (fun w hSw => by (try dsimp only at hSw); go_simp; try with_reducible rfl) hS ?_; try simp only [Act.put, List.setIfInBounds_toArray, List.set_cons_zero, List.set_cons_succ]
                refine wpAnyH_done (by kernel_rfl) ?_ _
                have HB5 := Lib.hid hS.1
                clear hS
                go_wp2
                go_roundw
                case rel => exact ⟨k + 1, by omega, by go_num, HE, HB5⟩
                case measure => simp [intOf]; omega
        · have hkm : k = m := by omega
          have HE : Hid (R = true) := by
            show _ = _
            rw [← HR3.out, List.all_eq_true]
            intro j hj
            rw [Int.toNat_natCast] at hj
            exact HK.out j (by rw [hkm]; exact List.mem_range.1 hj)
          have hlt2 : ¬ (k : Int) < (m : Int) := by omega
          go_wp2
          go_ret
          exact ⟨ret_bool HE.out.symm, HBR.out.low⟩
end Go.Proofs.Ytlaccbkhlkomhaa
