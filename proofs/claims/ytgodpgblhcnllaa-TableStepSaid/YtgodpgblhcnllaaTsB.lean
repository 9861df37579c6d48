/-
  The contract of frankinglaw10.TableStep: within the machine. Conditions: the table lies in memory; names within Go's own bounds.
-/
import Derived.Test.YtgodpgblhcnllaaTsA
namespace Go.Proofs.Ytgodpgblhcnllaa
open Go.RowKit
theorem TBN {w : World} {B : Nat} {t : Tab} {p : Lie} (h : TabIn w B t p) : ∀ n, TabIn (w.drewN n) B t p
  | 0 => h
  | n + 1 => (TBN h n).drew
attribute [local go_sem ↓] loadOp_C loadOp_T
set_option maxRecDepth 100000 in
set_option maxHeartbeats 2000000 in
theorem tableStep_other (t : Tab) (p : Lie) (X : Array Value) (hX : (tabCells t p).toArray = X) (s : Int) (b c : UInt8) (w : World) (h : TabAt w t p) (hf : fewB t = true) (hr : tabRightB t = true) (hs : ¬ s < 0) (hs2 : ¬ (t.tags.length : Int) ≤ s) (hcc : classZ t b ≠ classZ t c) :
    Calls Try.prog 6 #[.agg X, .int .i64 s, .int .u8 (b.toNat : Int), .int .u8 (c.toNat : Int)] w fun e w' => e = .returned (.bool true) ∧ Below w.heap.size w w' := by
  obtain ⟨B, HBE⟩ : ∃ B, Hid (B = w.heap.size) := ⟨_, rfl⟩
  have hi := TabIn.new h
  have hb0 : Below w.heap.size w (w.alloc (.cells (tabCells t p).toArray 30)) := (Below.refl _ _).alloc (Nat.le_refl _) _
  rw [hX] at hi hb0
  have hall := hi.read.all
  rw [hX] at hall
  have HFW := Lib.hid (few_any t p X hX _ hi.at_)
  rw [hf] at HFW
  have HI := Lib.hid hi
  have HB := Lib.hid hb0
  have HAW := Lib.hid awake_any
  have HQ1 : Hid (∀ W, TabIn W B t p → Calls Try.prog 11 #[.agg X, .int .i64 s, .int .u8 (b.toNat : Int)] W fun e w' => e = .returned (.int .i64 (stepP t s b)) ∧ Below W.heap.size W w') := fun W hW => step_any t p X hX s b W hW.at_
  have HQ2 : Hid (∀ W, TabIn W B t p → Calls Try.prog 11 #[.agg X, .int .i64 s, .int .u8 (c.toNat : Int)] W fun e w' => e = .returned (.int .i64 (stepP t s c)) ∧ Below W.heap.size W w') := fun W hW => step_any t p X hX s c W hW.at_
  have HQR : Hid (∀ W, TabIn W B t p → Calls Try.prog 9 #[.agg X] W fun e w' => e = .returned (.bool (tabRightB t)) ∧ Below W.heap.size W w') := fun W hW => right_agg t p X hX W hW.at_
  have HLIM : Hid (∀ W, TabIn W B t p → Below w.heap.size w W → TabIn W B t p ∧ Below w.heap.size w W ∧ (LoadOp 30 (.pointer (some ⟨B, 0, none⟩))).run Try.prog W = .ok (.agg X) W) := fun W h1 h2 => ⟨h1, h2, by have := h1.read.all; rw [hX] at this; exact this⟩
  have htl := h.tags.len
  have hnl := h.next.len
  unfold maxLen at htl hnl
  have hrt := (rightT_iff t).1 hr
  obtain ⟨n, rfl⟩ : ∃ n : Nat, s = n := ⟨s.toNat, by omega⟩
  obtain ⟨hbl, hbe⟩ := class_at h.of b
  obtain ⟨hcl, hce⟩ := class_at h.of c
  have hin := step_in hrt h.of n (by omega) b
  have hin2 := step_in hrt h.of n (by omega) c
  have hd0 := hrt.lo
  have hd1 := hrt.hi
  have hn5 := hrt.thi
  have hqq : (n : Int) * t.dmany = ((n * t.dmany.toNat : Nat) : Int) := by rw [Int.natCast_mul, Int.toNat_of_nonneg (by omega)]
  have hql : n * t.dmany.toNat ≤ 5000 * 256 := Nat.mul_le_mul (by omega) (by omega)
  obtain ⟨nb, no, hna, _⟩ := h.next.at_ hin
  have hv1 := hrt.next _ (List.getElem_mem hin)
  have hv2 := hrt.next _ (List.getElem_mem hin2)
  have hvv : classZ t b = classZ t c → t.next[n * t.dmany.toNat + classZ t b] = t.next[n * t.dmany.toNat + classZ t c] := fun e => by congr 2
  have hcla : classZ t b ≤ 255 := by have := (t.of.getD b.toNat 0).toNat_lt; unfold classZ; omega
  have hclb : classZ t c ≤ 255 := by have := (t.of.getD c.toNat 0).toNat_lt; unfold classZ; omega
  have HCELL : Hid (∀ W, TabIn W B t p → W.cell? ⟨B, 258, none⟩ = some (.slice (some ⟨nb, no, none⟩) t.next.length p.cn) ∧ W.cell? ⟨B, b.toNat, none⟩ = some (.int .u8 (classZ t b : Int)) ∧ W.cell? ⟨B, c.toNat, none⟩ = some (.int .u8 (classZ t c : Int)) ∧ W.cell? ⟨nb, no + (n * t.dmany.toNat + classZ t b), none⟩ = some (.int .i64 t.next[n * t.dmany.toNat + classZ t b])) := fun W hW => by
    have k1 := hW.next
    have k2 := hW.byte b.toNat hbl
    have k3 := hW.byte c.toNat hcl
    obtain ⟨nb', no', h1, h2⟩ := hW.at_.next.at_ hin
    rw [hna] at h1 k1
    injection h1 with h1
    injection h1 with h1 h3
    subst h1 h3
    rw [hbe] at k2
    rw [hce] at k3
    exact ⟨k1, k2, k3, h2⟩
  have stepE : ∀ x, ∀ hx : n * t.dmany.toNat + classZ t x < t.next.length, stepP t n x = t.next[n * t.dmany.toNat + classZ t x] := fun x hx => by
    unfold stepP
    rw [if_neg (by rw [hr]; rintro (h | h | h) <;> first | omega | cases h), Int.toNat_natCast, List.getD_eq_getElem?_getD, List.getElem?_eq_getElem hx]
    rfl
  rw [stepE b hin] at HQ1
  rw [stepE c hin2] at HQ2
  rw [hr] at HQR
  have hbn := b.toNat_lt
  have hcn := c.toNat_lt
  have hnt : n < t.tags.length := by omega
  clear stepE hrt hbe hce hbl hcl hna hr
  generalize t.next[n * t.dmany.toNat + classZ t b] = v1 at *
  generalize t.next[n * t.dmany.toNat + classZ t c] = v2 at *
  clear hin2
  generalize n * t.dmany.toNat = q at *
  generalize classZ t b = ci at *
  generalize classZ t c = cj at *
  generalize b.toNat = bn at *
  generalize c.toNat = cn at *
  have HLIM8 : Hid (∀ W, TabIn W B t p → Below w.heap.size w W → TabIn W B t p ∧ Below w.heap.size w W ∧ W.cell? ⟨B, 257, none⟩ = some (.int .i64 t.dmany) ∧ W.cell? ⟨B, 258, none⟩ = some (.slice (some ⟨nb, no, none⟩) t.next.length p.cn) ∧ W.cell? ⟨B, bn, none⟩ = some (.int .u8 (ci : Int)) ∧ W.cell? ⟨nb, no + (q + ci), none⟩ = some (.int .i64 v1)) := fun W h1 h2 => ⟨h1, h2, h1.dmany, (HCELL.out W h1).1, (HCELL.out W h1).2.1, (HCELL.out W h1).2.2.2⟩
  have HF1 : Hid (IntKind.i64.wrap ((n : Int) * t.dmany) = (q : Int)) := by show _ = _; rw [hqq]; exact IntWalk.i64_in _ (by omega)
  have HF2 : Hid (IntKind.i64.wrap ((q : Int) + (ci : Int)) = (q : Int) + (ci : Int)) := IntWalk.i64_in _ (by omega)
  have HF3 : Hid (IntKind.i64.wrap (ci : Int) = (ci : Int)) := IntWalk.i64_in _ (by omega)
  clear hqq
  clear h hi hb0 hX hf
  go_enter Try.func6, Try.ntmps6
  go_wp2_with (go_at_call 7; refine HFW.out.mono ?_; rintro e w1 ⟨rfl, hb1⟩; have HB1 := Lib.hid (low_trans HB.out hb1); have HI1 := Lib.hid (HI.out.below hb1); clear hb1)
  have hi1 := HI1.out
  have hb1 := HB1.out
  rw [← HBE.out] at hi1
  clear HI HB HI1 HB1 hall HFW
  rw [show (Value.pointer (some ⟨w.heap.size, 0, none⟩)) = Value.pointer (some ⟨B, 0, none⟩) from by rw [HBE.out]]
  refine wp_region_held_drew (S := (fun W => TabIn W B t p ∧ Below w.heap.size w W ∧ (LoadOp 30 (.pointer (some ⟨B, 0, none⟩))).run Try.prog W = .ok (.agg X) W)) (by kernel_rfl) (HLIM.out _ hi1.drew hb1.drew) (fun hS => ?_)
  refine take_val (i := 0) rfl (by kernel_rfl) (by kernel_rfl) (by kernel_rfl) (fun _ _ _ h => h) rfl (fun w hSw => by (try dsimp only at hSw); go_simp; try with_reducible rfl) hS ?_; try simp only [Act.put, List.setIfInBounds_toArray, List.set_cons_zero, List.set_cons_succ]
  refine take_val (i := 1) rfl (by kernel_rfl) (by kernel_rfl) (by kernel_rfl) (fun _ _ _ h => h) rfl (fun w hSw => by (try dsimp only at hSw); go_simp; try with_reducible rfl) hS ?_; try simp only [Act.put, List.setIfInBounds_toArray, List.set_cons_zero, List.set_cons_succ]
  refine take_val (i := 2) rfl (by kernel_rfl) (by kernel_rfl) (by kernel_rfl) (fun _ _ _ h => h) rfl (fun w hSw => by (try dsimp only at hSw); go_simp; try with_reducible rfl) hS ?_; try simp only [Act.put, List.setIfInBounds_toArray, List.set_cons_zero, List.set_cons_succ]
  refine take_val (i := 4) rfl (by kernel_rfl) (by kernel_rfl) (by kernel_rfl) (fun _ _ _ h => h) rfl (fun w hSw => by (try dsimp only at hSw); go_simp; try with_reducible rfl) hS ?_; try simp only [Act.put, List.setIfInBounds_toArray, List.set_cons_zero, List.set_cons_succ]
  refine take_val (i := 5) rfl (by kernel_rfl) (by kernel_rfl) (by kernel_rfl) (fun _ _ _ h => h) rfl (fun w hSw => by (try dsimp only at hSw); go_simp; try with_reducible rfl) hS ?_; try simp only [Act.put, List.setIfInBounds_toArray, List.set_cons_zero, List.set_cons_succ]
  refine take_val (i := 6) rfl (by kernel_rfl) (by kernel_rfl) (by kernel_rfl) (fun _ _ _ h => h) rfl (fun w hSw => by (try dsimp only at hSw); go_simp; try with_reducible rfl) hS ?_; try simp only [Act.put, List.setIfInBounds_toArray, List.set_cons_zero, List.set_cons_succ]
  refine take_call (i := 3) rfl (by kernel_rfl) rfl (fun K hK => ?_)
  go_simp; refine (HQ1.out _ hS.1).mono ?_; rintro e w2 ⟨rfl, hb2⟩; go_wp2_with fail
  refine hK.out _ _ (HLIM.out _ (TabIn.below hS.1 hb2) (hS.2.1.trans (hb2.mono hS.2.1.size))) (fun hS => ?_); clear hK K; try simp only [Act.put, List.setIfInBounds_toArray, List.set_cons_zero, List.set_cons_succ]
  refine take_call (i := 7) rfl (by kernel_rfl) rfl (fun K hK => ?_)
  go_simp; refine (HQ2.out _ hS.1).mono ?_; rintro e w3 ⟨rfl, hb3⟩; go_wp2_with fail
  refine hK.out _ _ (HLIM.out _ (TabIn.below hS.1 hb3) (hS.2.1.trans (hb3.mono hS.2.1.size))) (fun hS => ?_); clear hK K; try simp only [Act.put, List.setIfInBounds_toArray, List.set_cons_zero, List.set_cons_succ]
  refine take_val (i := 8) rfl (by kernel_rfl) (by kernel_rfl) (by kernel_rfl) (fun _ _ _ h => h) rfl (fun w hSw => by (try dsimp only at hSw); go_simp; try with_reducible rfl) hS ?_; try simp only [Act.put, List.setIfInBounds_toArray, List.set_cons_zero, List.set_cons_succ]
  refine take_val (i := 9) rfl (by kernel_rfl) (by kernel_rfl) (by kernel_rfl) (fun _ _ _ h => h) rfl (fun w hSw => by (try dsimp only at hSw); go_simp; try with_reducible rfl) hS ?_; try simp only [Act.put, List.setIfInBounds_toArray, List.set_cons_zero, List.set_cons_succ]
  refine wpAnyH_done (by kernel_rfl) ?_ _
  obtain ⟨hi3, hb3, hall3⟩ := hS
  have hc1 := hi3.dmany
  have hc2 := hi3.next
  have hc3 := hi3.tags
  have HI3 := Lib.hid hi3
  have HB3 := Lib.hid hb3
  clear hi3 hb3 hi1 hb1 hc1 hc2 hc3
  go_wp2_with (go_at_call 9; refine (HQR.out _ HI3.out).mono ?_; rintro e w4 ⟨rfl, hb4⟩; have HI4 := Lib.hid (HI3.out.below hb4); have HB4 := Lib.hid (low_trans HB3.out hb4); have k1 := HI4.out.tags; clear hb4)
  have k2 := (HCELL.out _ HI4.out).2.1
  have k3 := (HCELL.out _ HI4.out).2.2.1
  have g1 : (bn : Int) < 256 := by omega
  have g2 : (0 : Int) ≤ (bn : Int) := by omega
  have g3 : (cn : Int) < 256 := by omega
  have g4 : (0 : Int) ≤ (cn : Int) := by omega
  have g5 : ¬ v1 < -1 := by omega
  have g6 : ¬ (t.tags.length : Int) ≤ v1 := by omega
  have g7 : ((ci : Int) == (cj : Int)) = false := by simp; omega
  go_quiet (fail)
  go_wp2_with fail
  clear k1 k2 k3
  have hi4 := TBN HI4.out nq
  have hb4 := below_drewN HB4.out nq
  have f1 := HF1.out
  have f2 := HF2.out
  have f3 := HF3.out
  have f4 : (0 : Int) ≤ (q : Int) + (ci : Int) := by omega
  have f5 : (q : Int) + (ci : Int) < (t.next.length : Int) := by omega
  have f8 : ((q : Int) + (ci : Int)).toNat = q + ci := by omega
  refine wp_region_held_drew (S := (fun W => TabIn W B t p ∧ Below w.heap.size w W ∧ W.cell? ⟨B, 257, none⟩ = some (.int .i64 t.dmany) ∧ W.cell? ⟨B, 258, none⟩ = some (.slice (some ⟨nb, no, none⟩) t.next.length p.cn) ∧ W.cell? ⟨B, bn, none⟩ = some (.int .u8 (ci : Int)) ∧ W.cell? ⟨nb, no + (q + ci), none⟩ = some (.int .i64 v1))) (by kernel_rfl) (HLIM8.out _ hi4.drew hb4.drew) (fun hS => ?_)
  refine take_val (i := 0) rfl (by kernel_rfl) (by kernel_rfl) (by kernel_rfl) (fun _ _ _ h => h) rfl (fun w hSw => by (try dsimp only at hSw); go_simp; try with_reducible rfl) hS ?_; try simp only [Act.put, List.setIfInBounds_toArray, List.set_cons_zero, List.set_cons_succ]
  refine take_val (i := 1) rfl (by kernel_rfl) (by kernel_rfl) (by kernel_rfl) (fun _ _ _ h => h) rfl (fun w hSw => by (try dsimp only at hSw); go_simp; try with_reducible rfl) hS ?_; try simp only [Act.put, List.setIfInBounds_toArray, List.set_cons_zero, List.set_cons_succ]
  refine take_val (i := 2) rfl (by kernel_rfl) (by kernel_rfl) (by kernel_rfl) (fun _ _ _ h => h) rfl (fun w hSw => by (try dsimp only at hSw); go_simp; try with_reducible rfl) hS ?_; try simp only [Act.put, List.setIfInBounds_toArray, List.set_cons_zero, List.set_cons_succ]
  refine take_val (i := 3) rfl (by kernel_rfl) (by kernel_rfl) (by kernel_rfl) (fun _ _ _ h => h) rfl (fun w hSw => by (try dsimp only at hSw); go_simp; try with_reducible rfl) hS ?_; try simp only [Act.put, List.setIfInBounds_toArray, List.set_cons_zero, List.set_cons_succ]
  refine take_val (i := 4) rfl (by kernel_rfl) (by kernel_rfl) (by kernel_rfl) (fun _ _ _ h => h) rfl (fun w hSw => by (try dsimp only at hSw); go_simp; try with_reducible rfl) hS ?_; try simp only [Act.put, List.setIfInBounds_toArray, List.set_cons_zero, List.set_cons_succ]
  refine take_val (i := 5) rfl (by kernel_rfl) (by kernel_rfl) (by kernel_rfl) (fun _ _ _ h => h) rfl (fun w hSw => by (try dsimp only at hSw); go_simp; try with_reducible rfl) hS ?_; try simp only [Act.put, List.setIfInBounds_toArray, List.set_cons_zero, List.set_cons_succ]
  refine take_val (i := 6) rfl (by kernel_rfl) (by kernel_rfl) (by kernel_rfl) (fun _ _ _ h => h) rfl (fun w hSw => by (try dsimp only at hSw); go_simp; try with_reducible rfl) hS ?_; try simp only [Act.put, List.setIfInBounds_toArray, List.set_cons_zero, List.set_cons_succ]
  refine take_val (i := 7) rfl (by kernel_rfl) (by kernel_rfl) (by kernel_rfl) (fun _ _ _ h => h) rfl (fun w hSw => by (try dsimp only at hSw); go_simp; try with_reducible rfl) hS ?_; try simp only [Act.put, List.setIfInBounds_toArray, List.set_cons_zero, List.set_cons_succ]
  refine take_val (i := 8) rfl (by kernel_rfl) (by kernel_rfl) (by kernel_rfl) (fun _ _ _ h => h) rfl (fun w hSw => by (try dsimp only at hSw); go_simp; try with_reducible rfl) hS ?_; try simp only [Act.put, List.setIfInBounds_toArray, List.set_cons_zero, List.set_cons_succ]
  refine take_val (i := 9) rfl (by kernel_rfl) (by kernel_rfl) (by kernel_rfl) (fun _ _ _ h => h) rfl (fun w hSw => by (try dsimp only at hSw); go_simp; try with_reducible rfl) hS ?_; try simp only [Act.put, List.setIfInBounds_toArray, List.set_cons_zero, List.set_cons_succ]
  refine take_val (i := 10) rfl (by kernel_rfl) (by kernel_rfl) (by kernel_rfl) (fun _ _ _ h => h) rfl (fun w hSw => by (try dsimp only at hSw); go_simp; try with_reducible rfl) hS ?_; try simp only [Act.put, List.setIfInBounds_toArray, List.set_cons_zero, List.set_cons_succ]
  refine take_val (i := 11) rfl (by kernel_rfl) (by kernel_rfl) (by kernel_rfl) (fun _ _ _ h => h) rfl (fun w hSw => by (try dsimp only at hSw); go_simp; try with_reducible rfl) hS ?_; try simp only [Act.put, List.setIfInBounds_toArray, List.set_cons_zero, List.set_cons_succ]
  refine take_val (i := 12) rfl (by kernel_rfl) (by kernel_rfl) (by kernel_rfl) (fun _ _ _ h => h) rfl (fun w hSw => by (try dsimp only at hSw); go_simp; try with_reducible rfl) hS ?_; try simp only [Act.put, List.setIfInBounds_toArray, List.set_cons_zero, List.set_cons_succ]
  refine take_val (i := 13) rfl (by kernel_rfl) (by kernel_rfl) (by kernel_rfl) (fun _ _ _ h => h) rfl (fun w hSw => by (try dsimp only at hSw); go_simp; try with_reducible rfl) hS ?_; try simp only [Act.put, List.setIfInBounds_toArray, List.set_cons_zero, List.set_cons_succ]
  refine take_val (i := 14) rfl (by kernel_rfl) (by kernel_rfl) (by kernel_rfl) (fun _ _ _ h => h) rfl (fun w hSw => by (try dsimp only at hSw); go_simp; try with_reducible rfl) hS ?_; try simp only [Act.put, List.setIfInBounds_toArray, List.set_cons_zero, List.set_cons_succ]
  refine take_val (i := 15) rfl (by kernel_rfl) (by kernel_rfl) (by kernel_rfl) (fun _ _ _ h => h) rfl (fun w hSw => by (try dsimp only at hSw); go_simp; try with_reducible rfl) hS ?_; try simp only [Act.put, List.setIfInBounds_toArray, List.set_cons_zero, List.set_cons_succ]
  refine take_val (i := 16) rfl (by kernel_rfl) (by kernel_rfl) (by kernel_rfl) (fun _ _ _ h => h) rfl (fun w hSw => by (try dsimp only at hSw); go_simp; try with_reducible rfl) hS ?_; try simp only [Act.put, List.setIfInBounds_toArray, List.set_cons_zero, List.set_cons_succ]
  refine take_val (i := 17) rfl (by kernel_rfl) (by kernel_rfl) (by kernel_rfl) (fun _ _ _ h => h) rfl (fun w hSw => by (try dsimp only at hSw); go_simp; try with_reducible rfl) hS ?_; try simp only [Act.put, List.setIfInBounds_toArray, List.set_cons_zero, List.set_cons_succ]
  refine take_val (i := 18) rfl (by kernel_rfl) (by kernel_rfl) (by kernel_rfl) (fun _ _ _ h => h) rfl (fun w hSw => by (try dsimp only at hSw); go_simp; try with_reducible rfl) hS ?_; try simp only [Act.put, List.setIfInBounds_toArray, List.set_cons_zero, List.set_cons_succ]
  refine take_val (i := 19) rfl (by kernel_rfl) (by kernel_rfl) (by kernel_rfl) (fun _ _ _ h => h) rfl (fun w hSw => by (try dsimp only at hSw); go_simp; try with_reducible rfl) hS ?_; try simp only [Act.put, List.setIfInBounds_toArray, List.set_cons_zero, List.set_cons_succ]
  refine take_call (i := 20) rfl (by kernel_rfl) rfl (fun K hK => ?_)
  go_simp; refine (HAW.out _).mono ?_; rintro e w5 ⟨rfl, hb5⟩; go_wp2_with fail
  refine hK.out _ _ (HLIM8.out _ (TabIn.below hS.1 hb5) (hS.2.1.trans (hb5.mono hS.2.1.size))) (fun hS => ?_); clear hK K; try simp only [Act.put, List.setIfInBounds_toArray, List.set_cons_zero, List.set_cons_succ]
  refine take_val (i := 21) rfl (by kernel_rfl) (by kernel_rfl) (by kernel_rfl) (fun _ _ _ h => h) rfl (fun w hSw => by (try dsimp only at hSw); go_simp; try with_reducible rfl) hS ?_; try simp only [Act.put, List.setIfInBounds_toArray, List.set_cons_zero, List.set_cons_succ]
  refine take_val (i := 22) rfl (by kernel_rfl) (by kernel_rfl) (by kernel_rfl) (fun _ _ _ h => h) rfl (fun w hSw => by (try dsimp only at hSw); go_simp; try with_reducible rfl) hS ?_; try simp only [Act.put, List.setIfInBounds_toArray, List.set_cons_zero, List.set_cons_succ]
  refine wpAnyH_done (by kernel_rfl) ?_ _
  have HBL := Lib.hid hS.2.1
  clear hS
  go_wp2
  go_ret
  exact ⟨rfl, HBL.out⟩
set_option maxRecDepth 100000 in
set_option maxHeartbeats 2000000 in
theorem tableStep_same (t : Tab) (p : Lie) (X : Array Value) (hX : (tabCells t p).toArray = X) (s : Int) (b c : UInt8) (w : World) (h : TabAt w t p) (hf : fewB t = true) (hr : tabRightB t = true) (hs : ¬ s < 0) (hs2 : ¬ (t.tags.length : Int) ≤ s) (hcc : classZ t b = classZ t c) :
    Calls Try.prog 6 #[.agg X, .int .i64 s, .int .u8 (b.toNat : Int), .int .u8 (c.toNat : Int)] w fun e w' => e = .returned (.bool true) ∧ Below w.heap.size w w' := by
  obtain ⟨B, HBE⟩ : ∃ B, Hid (B = w.heap.size) := ⟨_, rfl⟩
  have hi := TabIn.new h
  have hb0 : Below w.heap.size w (w.alloc (.cells (tabCells t p).toArray 30)) := (Below.refl _ _).alloc (Nat.le_refl _) _
  rw [hX] at hi hb0
  have hall := hi.read.all
  rw [hX] at hall
  have HFW := Lib.hid (few_any t p X hX _ hi.at_)
  rw [hf] at HFW
  have HI := Lib.hid hi
  have HB := Lib.hid hb0
  have HAW := Lib.hid awake_any
  have HQ1 : Hid (∀ W, TabIn W B t p → Calls Try.prog 11 #[.agg X, .int .i64 s, .int .u8 (b.toNat : Int)] W fun e w' => e = .returned (.int .i64 (stepP t s b)) ∧ Below W.heap.size W w') := fun W hW => step_any t p X hX s b W hW.at_
  have HQ2 : Hid (∀ W, TabIn W B t p → Calls Try.prog 11 #[.agg X, .int .i64 s, .int .u8 (c.toNat : Int)] W fun e w' => e = .returned (.int .i64 (stepP t s c)) ∧ Below W.heap.size W w') := fun W hW => step_any t p X hX s c W hW.at_
  have HQR : Hid (∀ W, TabIn W B t p → Calls Try.prog 9 #[.agg X] W fun e w' => e = .returned (.bool (tabRightB t)) ∧ Below W.heap.size W w') := fun W hW => right_agg t p X hX W hW.at_
  have HLIM : Hid (∀ W, TabIn W B t p → Below w.heap.size w W → TabIn W B t p ∧ Below w.heap.size w W ∧ (LoadOp 30 (.pointer (some ⟨B, 0, none⟩))).run Try.prog W = .ok (.agg X) W) := fun W h1 h2 => ⟨h1, h2, by have := h1.read.all; rw [hX] at this; exact this⟩
  have htl := h.tags.len
  have hnl := h.next.len
  unfold maxLen at htl hnl
  have hrt := (rightT_iff t).1 hr
  obtain ⟨n, rfl⟩ : ∃ n : Nat, s = n := ⟨s.toNat, by omega⟩
  obtain ⟨hbl, hbe⟩ := class_at h.of b
  obtain ⟨hcl, hce⟩ := class_at h.of c
  have hin := step_in hrt h.of n (by omega) b
  have hin2 := step_in hrt h.of n (by omega) c
  have hd0 := hrt.lo
  have hd1 := hrt.hi
  have hn5 := hrt.thi
  have hqq : (n : Int) * t.dmany = ((n * t.dmany.toNat : Nat) : Int) := by rw [Int.natCast_mul, Int.toNat_of_nonneg (by omega)]
  have hql : n * t.dmany.toNat ≤ 5000 * 256 := Nat.mul_le_mul (by omega) (by omega)
  obtain ⟨nb, no, hna, _⟩ := h.next.at_ hin
  have hv1 := hrt.next _ (List.getElem_mem hin)
  have hv2 := hrt.next _ (List.getElem_mem hin2)
  have hvv : classZ t b = classZ t c → t.next[n * t.dmany.toNat + classZ t b] = t.next[n * t.dmany.toNat + classZ t c] := fun e => by congr 2
  have hcla : classZ t b ≤ 255 := by have := (t.of.getD b.toNat 0).toNat_lt; unfold classZ; omega
  have hclb : classZ t c ≤ 255 := by have := (t.of.getD c.toNat 0).toNat_lt; unfold classZ; omega
  have HCELL : Hid (∀ W, TabIn W B t p → W.cell? ⟨B, 258, none⟩ = some (.slice (some ⟨nb, no, none⟩) t.next.length p.cn) ∧ W.cell? ⟨B, b.toNat, none⟩ = some (.int .u8 (classZ t b : Int)) ∧ W.cell? ⟨B, c.toNat, none⟩ = some (.int .u8 (classZ t c : Int)) ∧ W.cell? ⟨nb, no + (n * t.dmany.toNat + classZ t b), none⟩ = some (.int .i64 t.next[n * t.dmany.toNat + classZ t b])) := fun W hW => by
    have k1 := hW.next
    have k2 := hW.byte b.toNat hbl
    have k3 := hW.byte c.toNat hcl
    obtain ⟨nb', no', h1, h2⟩ := hW.at_.next.at_ hin
    rw [hna] at h1 k1
    injection h1 with h1
    injection h1 with h1 h3
    subst h1 h3
    rw [hbe] at k2
    rw [hce] at k3
    exact ⟨k1, k2, k3, h2⟩
  have stepE : ∀ x, ∀ hx : n * t.dmany.toNat + classZ t x < t.next.length, stepP t n x = t.next[n * t.dmany.toNat + classZ t x] := fun x hx => by
    unfold stepP
    rw [if_neg (by rw [hr]; rintro (h | h | h) <;> first | omega | cases h), Int.toNat_natCast, List.getD_eq_getElem?_getD, List.getElem?_eq_getElem hx]
    rfl
  rw [stepE b hin] at HQ1
  rw [stepE c hin2] at HQ2
  rw [hr] at HQR
  have hbn := b.toNat_lt
  have hcn := c.toNat_lt
  have hnt : n < t.tags.length := by omega
  clear stepE hrt hbe hce hbl hcl hna hr
  generalize t.next[n * t.dmany.toNat + classZ t b] = v1 at *
  generalize t.next[n * t.dmany.toNat + classZ t c] = v2 at *
  clear hin2
  generalize n * t.dmany.toNat = q at *
  generalize classZ t b = ci at *
  generalize classZ t c = cj at *
  generalize b.toNat = bn at *
  generalize c.toNat = cn at *
  have HLIM8 : Hid (∀ W, TabIn W B t p → Below w.heap.size w W → TabIn W B t p ∧ Below w.heap.size w W ∧ W.cell? ⟨B, 257, none⟩ = some (.int .i64 t.dmany) ∧ W.cell? ⟨B, 258, none⟩ = some (.slice (some ⟨nb, no, none⟩) t.next.length p.cn) ∧ W.cell? ⟨B, bn, none⟩ = some (.int .u8 (ci : Int)) ∧ W.cell? ⟨nb, no + (q + ci), none⟩ = some (.int .i64 v1)) := fun W h1 h2 => ⟨h1, h2, h1.dmany, (HCELL.out W h1).1, (HCELL.out W h1).2.1, (HCELL.out W h1).2.2.2⟩
  have HF1 : Hid (IntKind.i64.wrap ((n : Int) * t.dmany) = (q : Int)) := by show _ = _; rw [hqq]; exact IntWalk.i64_in _ (by omega)
  have HF2 : Hid (IntKind.i64.wrap ((q : Int) + (ci : Int)) = (q : Int) + (ci : Int)) := IntWalk.i64_in _ (by omega)
  have HF3 : Hid (IntKind.i64.wrap (ci : Int) = (ci : Int)) := IntWalk.i64_in _ (by omega)
  clear hqq
  clear h hi hb0 hX hf
  go_enter Try.func6, Try.ntmps6
  go_wp2_with (go_at_call 7; refine HFW.out.mono ?_; rintro e w1 ⟨rfl, hb1⟩; have HB1 := Lib.hid (low_trans HB.out hb1); have HI1 := Lib.hid (HI.out.below hb1); clear hb1)
  have hi1 := HI1.out
  have hb1 := HB1.out
  rw [← HBE.out] at hi1
  clear HI HB HI1 HB1 hall HFW
  rw [show (Value.pointer (some ⟨w.heap.size, 0, none⟩)) = Value.pointer (some ⟨B, 0, none⟩) from by rw [HBE.out]]
  refine wp_region_held_drew (S := (fun W => TabIn W B t p ∧ Below w.heap.size w W ∧ (LoadOp 30 (.pointer (some ⟨B, 0, none⟩))).run Try.prog W = .ok (.agg X) W)) (by kernel_rfl) (HLIM.out _ hi1.drew hb1.drew) (fun hS => ?_)
  refine take_val (i := 0) rfl (by kernel_rfl) (by kernel_rfl) (by kernel_rfl) (fun _ _ _ h => h) rfl (fun w hSw => by (try dsimp only at hSw); go_simp; try with_reducible rfl) hS ?_; try simp only [Act.put, List.setIfInBounds_toArray, List.set_cons_zero, List.set_cons_succ]
  refine take_val (i := 1) rfl (by kernel_rfl) (by kernel_rfl) (by kernel_rfl) (fun _ _ _ h => h) rfl (fun w hSw => by (try dsimp only at hSw); go_simp; try with_reducible rfl) hS ?_; try simp only [Act.put, List.setIfInBounds_toArray, List.set_cons_zero, List.set_cons_succ]
  refine take_val (i := 2) rfl (by kernel_rfl) (by kernel_rfl) (by kernel_rfl) (fun _ _ _ h => h) rfl (fun w hSw => by (try dsimp only at hSw); go_simp; try with_reducible rfl) hS ?_; try simp only [Act.put, List.setIfInBounds_toArray, List.set_cons_zero, List.set_cons_succ]
  refine take_val (i := 4) rfl (by kernel_rfl) (by kernel_rfl) (by kernel_rfl) (fun _ _ _ h => h) rfl (fun w hSw => by (try dsimp only at hSw); go_simp; try with_reducible rfl) hS ?_; try simp only [Act.put, List.setIfInBounds_toArray, List.set_cons_zero, List.set_cons_succ]
  refine take_val (i := 5) rfl (by kernel_rfl) (by kernel_rfl) (by kernel_rfl) (fun _ _ _ h => h) rfl (fun w hSw => by (try dsimp only at hSw); go_simp; try with_reducible rfl) hS ?_; try simp only [Act.put, List.setIfInBounds_toArray, List.set_cons_zero, List.set_cons_succ]
  refine take_val (i := 6) rfl (by kernel_rfl) (by kernel_rfl) (by kernel_rfl) (fun _ _ _ h => h) rfl (fun w hSw => by (try dsimp only at hSw); go_simp; try with_reducible rfl) hS ?_; try simp only [Act.put, List.setIfInBounds_toArray, List.set_cons_zero, List.set_cons_succ]
  refine take_call (i := 3) rfl (by kernel_rfl) rfl (fun K hK => ?_)
  go_simp; refine (HQ1.out _ hS.1).mono ?_; rintro e w2 ⟨rfl, hb2⟩; go_wp2_with fail
  refine hK.out _ _ (HLIM.out _ (TabIn.below hS.1 hb2) (hS.2.1.trans (hb2.mono hS.2.1.size))) (fun hS => ?_); clear hK K; try simp only [Act.put, List.setIfInBounds_toArray, List.set_cons_zero, List.set_cons_succ]
  refine take_call (i := 7) rfl (by kernel_rfl) rfl (fun K hK => ?_)
  go_simp; refine (HQ2.out _ hS.1).mono ?_; rintro e w3 ⟨rfl, hb3⟩; go_wp2_with fail
  refine hK.out _ _ (HLIM.out _ (TabIn.below hS.1 hb3) (hS.2.1.trans (hb3.mono hS.2.1.size))) (fun hS => ?_); clear hK K; try simp only [Act.put, List.setIfInBounds_toArray, List.set_cons_zero, List.set_cons_succ]
  refine take_val (i := 8) rfl (by kernel_rfl) (by kernel_rfl) (by kernel_rfl) (fun _ _ _ h => h) rfl (fun w hSw => by (try dsimp only at hSw); go_simp; try with_reducible rfl) hS ?_; try simp only [Act.put, List.setIfInBounds_toArray, List.set_cons_zero, List.set_cons_succ]
  refine take_val (i := 9) rfl (by kernel_rfl) (by kernel_rfl) (by kernel_rfl) (fun _ _ _ h => h) rfl (fun w hSw => by (try dsimp only at hSw); go_simp; try with_reducible rfl) hS ?_; try simp only [Act.put, List.setIfInBounds_toArray, List.set_cons_zero, List.set_cons_succ]
  refine wpAnyH_done (by kernel_rfl) ?_ _
  obtain ⟨hi3, hb3, hall3⟩ := hS
  have hc1 := hi3.dmany
  have hc2 := hi3.next
  have hc3 := hi3.tags
  have HI3 := Lib.hid hi3
  have HB3 := Lib.hid hb3
  clear hi3 hb3 hi1 hb1 hc1 hc2 hc3
  go_wp2_with (go_at_call 9; refine (HQR.out _ HI3.out).mono ?_; rintro e w4 ⟨rfl, hb4⟩; have HI4 := Lib.hid (HI3.out.below hb4); have HB4 := Lib.hid (low_trans HB3.out hb4); have k1 := HI4.out.tags; clear hb4)
  have k2 := (HCELL.out _ HI4.out).2.1
  have k3 := (HCELL.out _ HI4.out).2.2.1
  have g1 : (bn : Int) < 256 := by omega
  have g2 : (0 : Int) ≤ (bn : Int) := by omega
  have g3 : (cn : Int) < 256 := by omega
  have g4 : (0 : Int) ≤ (cn : Int) := by omega
  have g5 : ¬ v1 < -1 := by omega
  have g6 : ¬ (t.tags.length : Int) ≤ v1 := by omega
  have hvv2 := hvv hcc
  subst hcc
  subst hvv2
  go_quiet (fail)
  go_wp2_with fail
  clear k1 k2 k3
  have hi4 := TBN HI4.out nq
  have hb4 := below_drewN HB4.out nq
  have f1 := HF1.out
  have f2 := HF2.out
  have f3 := HF3.out
  have f4 : (0 : Int) ≤ (q : Int) + (ci : Int) := by omega
  have f5 : (q : Int) + (ci : Int) < (t.next.length : Int) := by omega
  have f8 : ((q : Int) + (ci : Int)).toNat = q + ci := by omega
  refine wp_region_held_drew (S := (fun W => TabIn W B t p ∧ Below w.heap.size w W ∧ W.cell? ⟨B, 257, none⟩ = some (.int .i64 t.dmany) ∧ W.cell? ⟨B, 258, none⟩ = some (.slice (some ⟨nb, no, none⟩) t.next.length p.cn) ∧ W.cell? ⟨B, bn, none⟩ = some (.int .u8 (ci : Int)) ∧ W.cell? ⟨nb, no + (q + ci), none⟩ = some (.int .i64 v1))) (by kernel_rfl) (HLIM8.out _ hi4.drew hb4.drew) (fun hS => ?_)
  refine take_val (i := 0) rfl (by kernel_rfl) (by kernel_rfl) (by kernel_rfl) (fun _ _ _ h => h) rfl (fun w hSw => by (try dsimp only at hSw); go_simp; try with_reducible rfl) hS ?_; try simp only [Act.put, List.setIfInBounds_toArray, List.set_cons_zero, List.set_cons_succ]
  refine take_val (i := 1) rfl (by kernel_rfl) (by kernel_rfl) (by kernel_rfl) (fun _ _ _ h => h) rfl (fun w hSw => by (try dsimp only at hSw); go_simp; try with_reducible rfl) hS ?_; try simp only [Act.put, List.setIfInBounds_toArray, List.set_cons_zero, List.set_cons_succ]
  refine take_val (i := 2) rfl (by kernel_rfl) (by kernel_rfl) (by kernel_rfl) (fun _ _ _ h => h) rfl (fun w hSw => by (try dsimp only at hSw); go_simp; try with_reducible rfl) hS ?_; try simp only [Act.put, List.setIfInBounds_toArray, List.set_cons_zero, List.set_cons_succ]
  refine take_val (i := 3) rfl (by kernel_rfl) (by kernel_rfl) (by kernel_rfl) (fun _ _ _ h => h) rfl (fun w hSw => by (try dsimp only at hSw); go_simp; try with_reducible rfl) hS ?_; try simp only [Act.put, List.setIfInBounds_toArray, List.set_cons_zero, List.set_cons_succ]
  refine take_val (i := 4) rfl (by kernel_rfl) (by kernel_rfl) (by kernel_rfl) (fun _ _ _ h => h) rfl (fun w hSw => by (try dsimp only at hSw); go_simp; try with_reducible rfl) hS ?_; try simp only [Act.put, List.setIfInBounds_toArray, List.set_cons_zero, List.set_cons_succ]
  refine take_val (i := 5) rfl (by kernel_rfl) (by kernel_rfl) (by kernel_rfl) (fun _ _ _ h => h) rfl (fun w hSw => by (try dsimp only at hSw); go_simp; try with_reducible rfl) hS ?_; try simp only [Act.put, List.setIfInBounds_toArray, List.set_cons_zero, List.set_cons_succ]
  refine take_val (i := 6) rfl (by kernel_rfl) (by kernel_rfl) (by kernel_rfl) (fun _ _ _ h => h) rfl (fun w hSw => by (try dsimp only at hSw); go_simp; try with_reducible rfl) hS ?_; try simp only [Act.put, List.setIfInBounds_toArray, List.set_cons_zero, List.set_cons_succ]
  refine take_val (i := 7) rfl (by kernel_rfl) (by kernel_rfl) (by kernel_rfl) (fun _ _ _ h => h) rfl (fun w hSw => by (try dsimp only at hSw); go_simp; try with_reducible rfl) hS ?_; try simp only [Act.put, List.setIfInBounds_toArray, List.set_cons_zero, List.set_cons_succ]
  refine take_val (i := 8) rfl (by kernel_rfl) (by kernel_rfl) (by kernel_rfl) (fun _ _ _ h => h) rfl (fun w hSw => by (try dsimp only at hSw); go_simp; try with_reducible rfl) hS ?_; try simp only [Act.put, List.setIfInBounds_toArray, List.set_cons_zero, List.set_cons_succ]
  refine take_val (i := 9) rfl (by kernel_rfl) (by kernel_rfl) (by kernel_rfl) (fun _ _ _ h => h) rfl (fun w hSw => by (try dsimp only at hSw); go_simp; try with_reducible rfl) hS ?_; try simp only [Act.put, List.setIfInBounds_toArray, List.set_cons_zero, List.set_cons_succ]
  refine take_val (i := 10) rfl (by kernel_rfl) (by kernel_rfl) (by kernel_rfl) (fun _ _ _ h => h) rfl (fun w hSw => by (try dsimp only at hSw); go_simp; try with_reducible rfl) hS ?_; try simp only [Act.put, List.setIfInBounds_toArray, List.set_cons_zero, List.set_cons_succ]
  refine take_val (i := 11) rfl (by kernel_rfl) (by kernel_rfl) (by kernel_rfl) (fun _ _ _ h => h) rfl (fun w hSw => by (try dsimp only at hSw); go_simp; try with_reducible rfl) hS ?_; try simp only [Act.put, List.setIfInBounds_toArray, List.set_cons_zero, List.set_cons_succ]
  refine take_val (i := 12) rfl (by kernel_rfl) (by kernel_rfl) (by kernel_rfl) (fun _ _ _ h => h) rfl (fun w hSw => by (try dsimp only at hSw); go_simp; try with_reducible rfl) hS ?_; try simp only [Act.put, List.setIfInBounds_toArray, List.set_cons_zero, List.set_cons_succ]
  refine take_val (i := 13) rfl (by kernel_rfl) (by kernel_rfl) (by kernel_rfl) (fun _ _ _ h => h) rfl (fun w hSw => by (try dsimp only at hSw); go_simp; try with_reducible rfl) hS ?_; try simp only [Act.put, List.setIfInBounds_toArray, List.set_cons_zero, List.set_cons_succ]
  refine take_val (i := 14) rfl (by kernel_rfl) (by kernel_rfl) (by kernel_rfl) (fun _ _ _ h => h) rfl (fun w hSw => by (try dsimp only at hSw); go_simp; try with_reducible rfl) hS ?_; try simp only [Act.put, List.setIfInBounds_toArray, List.set_cons_zero, List.set_cons_succ]
  refine take_val (i := 15) rfl (by kernel_rfl) (by kernel_rfl) (by kernel_rfl) (fun _ _ _ h => h) rfl (fun w hSw => by (try dsimp only at hSw); go_simp; try with_reducible rfl) hS ?_; try simp only [Act.put, List.setIfInBounds_toArray, List.set_cons_zero, List.set_cons_succ]
  refine take_val (i := 16) rfl (by kernel_rfl) (by kernel_rfl) (by kernel_rfl) (fun _ _ _ h => h) rfl (fun w hSw => by (try dsimp only at hSw); go_simp; try with_reducible rfl) hS ?_; try simp only [Act.put, List.setIfInBounds_toArray, List.set_cons_zero, List.set_cons_succ]
  refine take_val (i := 17) rfl (by kernel_rfl) (by kernel_rfl) (by kernel_rfl) (fun _ _ _ h => h) rfl (fun w hSw => by (try dsimp only at hSw); go_simp; try with_reducible rfl) hS ?_; try simp only [Act.put, List.setIfInBounds_toArray, List.set_cons_zero, List.set_cons_succ]
  refine take_val (i := 18) rfl (by kernel_rfl) (by kernel_rfl) (by kernel_rfl) (fun _ _ _ h => h) rfl (fun w hSw => by (try dsimp only at hSw); go_simp; try with_reducible rfl) hS ?_; try simp only [Act.put, List.setIfInBounds_toArray, List.set_cons_zero, List.set_cons_succ]
  refine take_val (i := 19) rfl (by kernel_rfl) (by kernel_rfl) (by kernel_rfl) (fun _ _ _ h => h) rfl (fun w hSw => by (try dsimp only at hSw); go_simp; try with_reducible rfl) hS ?_; try simp only [Act.put, List.setIfInBounds_toArray, List.set_cons_zero, List.set_cons_succ]
  refine take_call (i := 20) rfl (by kernel_rfl) rfl (fun K hK => ?_)
  go_simp; refine (HAW.out _).mono ?_; rintro e w5 ⟨rfl, hb5⟩; go_wp2_with fail
  refine hK.out _ _ (HLIM8.out _ (TabIn.below hS.1 hb5) (hS.2.1.trans (hb5.mono hS.2.1.size))) (fun hS => ?_); clear hK K; try simp only [Act.put, List.setIfInBounds_toArray, List.set_cons_zero, List.set_cons_succ]
  refine take_val (i := 21) rfl (by kernel_rfl) (by kernel_rfl) (by kernel_rfl) (fun _ _ _ h => h) rfl (fun w hSw => by (try dsimp only at hSw); go_simp; try with_reducible rfl) hS ?_; try simp only [Act.put, List.setIfInBounds_toArray, List.set_cons_zero, List.set_cons_succ]
  refine take_val (i := 22) rfl (by kernel_rfl) (by kernel_rfl) (by kernel_rfl) (fun _ _ _ h => h) rfl (fun w hSw => by (try dsimp only at hSw); go_simp; try with_reducible rfl) hS ?_; try simp only [Act.put, List.setIfInBounds_toArray, List.set_cons_zero, List.set_cons_succ]
  refine wpAnyH_done (by kernel_rfl) ?_ _
  have HBL := Lib.hid hS.2.1
  clear hS
  go_wp2
  go_ret
  exact ⟨rfl, HBL.out⟩
theorem tableStep_any (t : Tab) (p : Lie) (X : Array Value) (hX : (tabCells t p).toArray = X) (s : Int) (b c : UInt8) (w : World) (h : TabAt w t p) :
    Calls Try.prog 6 #[.agg X, .int .i64 s, .int .u8 (b.toNat : Int), .int .u8 (c.toNat : Int)] w fun e w' => e = .returned (.bool true) ∧ Below w.heap.size w w' := by
  cases hf : fewB t with
  | false => exact tableStep_no t p X hX s b c w h hf
  | true =>
    cases hr : tabRightB t with
    | false => exact tableStep_notRight t p X hX s b c w h hf hr
    | true =>
      by_cases hs : s < 0
      · exact tableStep_low t p X hX s b c w h hf hr hs
      · by_cases hs2 : (t.tags.length : Int) ≤ s
        · exact tableStep_high t p X hX s b c w h hf hr hs hs2
        · by_cases hcc : classZ t b = classZ t c
          · exact tableStep_same t p X hX s b c w h hf hr hs hs2 hcc
          · exact tableStep_other t p X hX s b c w h hf hr hs hs2 hcc
end Go.Proofs.Ytgodpgblhcnllaa
