/-
  The contracts of frankingref06.First and Fits: they are those of classes.First and Fits. Conditions: 256 bytes; a set.
-/
import Derived.Test.YtlaccbkhlkomhaaClN
import Derived.Test.YtlaccbkhlkomhaaCtO
namespace Go.Proofs.Ytlaccbkhlkomhaa
open Go.RowKit

theorem idx_least {of : List UInt8} {c : Nat} (h : ∃ k, ∃ h : k < of.length, (of[k]).toNat = c) : idxOf c of = ((leastP of (c : Int) : Nat) : Int) ∧ leastP of (c : Int) < of.length := by
  obtain ⟨k, h1, hk, he, hn⟩ := idxOf_is h
  have h2 := leastP_at of (c : Int) k hk (by rw [he]) (fun j hj hjk e => hn j hjk (by omega))
  rw [h1, h2]
  exact ⟨rfl, hk⟩
attribute [local go_sem ↓] loadCl_eq storeCl_eq
set_option maxRecDepth 100000 in
set_option maxHeartbeats 2000000 in
theorem rFirst_any (of : List UInt8) (many cl : Int) (w : World) (ho : of.length = 256) :
    Calls Try.prog 13 #[.agg (clCells of many).toArray, .int .i64 cl] w fun e w' => e = .returned (firstV of many cl) ∧ Below w.heap.size w w' := by
  obtain ⟨cs, hcs⟩ : ∃ cs, cs = (clCells of many).toArray := ⟨_, rfl⟩
  have HRT : Hid (∀ w, Calls Try.prog 15 #[.agg cs] w fun e w' => e = .returned (.bool (clRightB of many)) ∧ Below w.heap.size w w') := fun w => by rw [hcs]; exact rClRight_any of many w ho
  have HLS : Hid (∀ w c, Calls Try.prog 33 #[.agg cs, .int .i64 c] w fun e w' => e = .returned (.int .i64 (leastP of c : Nat)) ∧ Below w.heap.size w w') := fun w c => by rw [hcs]; exact least_any of many c w ho
  have HLD : Hid (∀ W B, Blk W B 25 cs → (LoadCl (.pointer (some ⟨B, 0, none⟩))).run Try.prog W = .ok (.agg cs) W ∧ W.cell? ⟨B, 256, none⟩ = some (.int .i64 many)) := fun W B hb => by
    rw [hcs] at hb ⊢
    exact ⟨loadCl_run ho hb, by rw [hb.cell, List.getElem?_toArray]; exact clCells_many of many ho⟩
  have HFV : Hid (clRightB of many = true → 0 ≤ cl → cl < many → firstV of many cl = .tuple #[.int .u8 (leastP of cl : Nat), .bool true] ∧ leastP of cl < 256) := fun h1 h2 h3 => by
    obtain ⟨c, rfl⟩ : ∃ c : Nat, cl = c := ⟨cl.toNat, by omega⟩
    obtain ⟨_, _, h4⟩ := clRight_many h1
    obtain ⟨h5, h6⟩ := idx_least (h4 c h3)
    unfold firstV
    rw [if_pos ⟨h1, h2, h3⟩, Int.toNat_natCast, h5]
    exact ⟨rfl, by omega⟩
  have HFN : Hid (¬ (clRightB of many = true ∧ 0 ≤ cl ∧ cl < many) → firstV of many cl = .tuple #[.int .u8 0, .bool false]) := fun h => by unfold firstV; rw [if_neg h]
  rw [← hcs]
  clear hcs
  have HB0 : Hid (Blk (w.alloc (.cells cs 25)) w.heap.size 25 cs) := Blk.new _ _ _
  have HL0 : Hid (Below w.heap.size w (w.alloc (.cells cs 25))) := (Below.refl _ _).alloc (Nat.le_refl _) _
  have l0 := (HLD.out _ _ HB0.out).1
  go_enter Try.func13, Try.ntmps13
  generalize clRightB of many = R at *
  generalize firstV of many cl = FV at *
  cases R with
  | false =>
    have HE := Lib.hid (HFN.out (by simp))
    go_wp2_with (go_at_call 15; refine (HRT.out _).mono ?_; rintro e w5 ⟨rfl, hb5⟩; have HL5 := Lib.hid (low_trans HL0.out hb5); clear hb5)
    refine bodyPost_ret (results_tmp2 rfl _ _ _) rfl ?_
    exact ⟨by rw [HE.out]; rfl, HL5.out⟩
  | true =>
    by_cases h1 : cl < 0
    · have HE := Lib.hid (HFN.out (by omega))
      go_wp2_with (go_at_call 15; refine (HRT.out _).mono ?_; rintro e w5 ⟨rfl, hb5⟩; have HL5 := Lib.hid (low_trans HL0.out hb5); clear hb5)
      refine bodyPost_ret (results_tmp2 rfl _ _ _) rfl ?_
      exact ⟨by rw [HE.out]; rfl, HL5.out⟩
    · by_cases h2 : many ≤ cl
      · have HE := Lib.hid (HFN.out (by omega))
        go_wp2_with (go_at_call 15; refine (HRT.out _).mono ?_; rintro e w5 ⟨rfl, hb5⟩; have HL5 := Lib.hid (low_trans HL0.out hb5); have c5 := (HLD.out _ _ (HB0.out.below hb5 HB0.out.lt)).2; clear hb5)
        refine bodyPost_ret (results_tmp2 rfl _ _ _) rfl ?_
        exact ⟨by rw [HE.out]; rfl, HL5.out⟩
      · obtain ⟨he, hl⟩ := HFV.out rfl (by omega) (by omega)
        have HE := Lib.hid he
        have HLC : Hid (∀ W, Calls Try.prog 33 #[.agg cs, .int .i64 cl] W fun e w' => e = .returned (.int .i64 (leastP of cl : Nat)) ∧ Below W.heap.size W w') := fun W => HLS.out W cl
        clear HLS
        have hlw : ((leastP of cl : Nat) : Int) % 256 = ((leastP of cl : Nat) : Int) := by omega
        clear he
        generalize leastP of cl = lp at *
        go_wp2_with (first
          | (go_at_call 15; refine (HRT.out _).mono ?_; rintro e w5 ⟨rfl, hb5⟩; have HL5 := Lib.hid (low_trans HL0.out hb5); obtain ⟨l5, c5⟩ := HLD.out _ _ (HB0.out.below hb5 HB0.out.lt); clear hb5)
          | (go_at_call 33; refine (HLC.out _).mono ?_; rintro e w6 ⟨rfl, hb6⟩; have HL6 := Lib.hid (low_trans HL5.out hb6); clear hb6))
        refine bodyPost_ret (results_tmp2 rfl _ _ _) rfl ?_
        exact ⟨by rw [HE.out]; rfl, HL6.out⟩
theorem getD_eq {l : List UInt8} {i : Nat} (h : i < l.length) : l.getD i 0 = l[i] := by rw [List.getD_eq_getElem?_getD, List.getElem?_eq_getElem h]; rfl
theorem parts_least {of : List UInt8} {s : St} (ho : of.length = 256) (h : ∀ j, j < 256 → inS s j = inS s (leastP of ((of.getD j 0).toNat : Int))) : partsB of s = false := by
  rw [Bool.eq_false_iff]
  intro hp
  obtain ⟨i, hi, j, hj, he, hne⟩ := (parts_iff of s).1 hp
  rw [h i hi, h j hj, he] at hne
  exact hne rfl
theorem parts_found {of : List UInt8} {s : St} (ho : of.length = 256) {j : Nat} (hj : j < 256) (h : inS s j ≠ inS s (leastP of ((of.getD j 0).toNat : Int))) : partsB of s = true := by
  have hl : leastP of ((of.getD j 0).toNat : Int) ≤ j := leastP_le (by rw [ho]; exact hj) (by rw [getD_eq (by rw [ho]; exact hj)])
  have hlt : leastP of ((of.getD j 0).toNat : Int) < of.length := by omega
  refine (parts_iff of s).2 ⟨j, hj, _, by omega, ?_, h⟩
  have h2 := leastP_get hlt
  rw [getD_eq hlt]
  exact UInt8.toNat_inj.1 (by omega)
theorem least_lt (of : List UInt8) (ho : of.length = 256) (j : Nat) (hj : j < 256) : leastP of ((of.getD j 0).toNat : Int) < 256 := by
  have hl : leastP of ((of.getD j 0).toNat : Int) ≤ j := leastP_le (by rw [ho]; exact hj) (by rw [getD_eq (by rw [ho]; exact hj)])
  omega
set_option maxRecDepth 100000 in
set_option maxHeartbeats 4000000 in
theorem rFits_any (of : List UInt8) (many : Int) (s : St) (w : World) (ho : of.length = 256) (hs : s.ok) :
    Calls Try.prog 17 #[.agg (clCells of many).toArray, .agg #[.int .u64 (s.s0 : Int), .int .u64 (s.s1 : Int), .int .u64 (s.s2 : Int), .int .u64 (s.s3 : Int)]] w fun e w' => e = .returned (.bool (clRightB of many && !partsB of s)) ∧ Below w.heap.size w w' := by
  obtain ⟨cs, hcs⟩ : ∃ cs, cs = (clCells of many).toArray := ⟨_, rfl⟩
  have HRT : Hid (∀ w, Calls Try.prog 15 #[.agg cs] w fun e w' => e = .returned (.bool (clRightB of many)) ∧ Below w.heap.size w w') := fun w => by rw [hcs]; exact rClRight_any of many w ho
  have HLS : Hid (∀ w c, Calls Try.prog 33 #[.agg cs, .int .i64 c] w fun e w' => e = .returned (.int .i64 (leastP of c : Nat)) ∧ Below w.heap.size w w') := fun w c => by rw [hcs]; exact least_any of many c w ho
  have HIN : Hid (∀ w (b : Nat), b < 256 → Calls Try.prog 34 #[.agg #[.int .u64 (s.s0 : Int), .int .u64 (s.s1 : Int), .int .u64 (s.s2 : Int), .int .u64 (s.s3 : Int)], .int .i64 (b : Int)] w fun e w' => e = .returned (.bool (inS s b)) ∧ Below w.heap.size w w') := fun w b hb => rIn_any s b hb hs w
  have HLD : Hid (∀ W B, Blk W B 25 cs → (LoadCl (.pointer (some ⟨B, 0, none⟩))).run Try.prog W = .ok (.agg cs) W ∧ ∀ k, k < 256 → W.cell? ⟨B, k, none⟩ = some (.int .u8 ((of.getD k 0).toNat : Int))) := fun W B hb => by
    rw [hcs] at hb ⊢
    refine ⟨loadCl_run ho hb, fun k hk => ?_⟩
    rw [hb.cell, List.getElem?_toArray, clCells_at of many k (by rw [ho]; exact hk), getD_eq (by rw [ho]; exact hk)]
    rfl
  have HPL : Hid ((∀ j, j < 256 → inS s j = inS s (leastP of ((of.getD j 0).toNat : Int))) → partsB of s = false) := parts_least ho
  have HPF : Hid (∀ j, j < 256 → inS s j ≠ inS s (leastP of ((of.getD j 0).toNat : Int)) → partsB of s = true) := fun j hj h => parts_found ho hj h
  have HLT := Lib.hid (least_lt of ho)
  rw [← hcs]
  clear hcs
  have HB0 : Hid (Blk ((w.alloc (.cells cs 25)).alloc (.cells #[.int .u64 (s.s0 : Int), .int .u64 (s.s1 : Int), .int .u64 (s.s2 : Int), .int .u64 (s.s3 : Int)] 28)) w.heap.size 25 cs) := (Blk.new _ _ _).alloc _
  have HS0 : Hid (Blk ((w.alloc (.cells cs 25)).alloc (.cells #[.int .u64 (s.s0 : Int), .int .u64 (s.s1 : Int), .int .u64 (s.s2 : Int), .int .u64 (s.s3 : Int)] 28)) (w.heap.size + 1) 28 #[.int .u64 (s.s0 : Int), .int .u64 (s.s1 : Int), .int .u64 (s.s2 : Int), .int .u64 (s.s3 : Int)]) := Blk.new_at _ _ _ _ (by simp)
  have HL0 : Hid (Below w.heap.size w ((w.alloc (.cells cs 25)).alloc (.cells #[.int .u64 (s.s0 : Int), .int .u64 (s.s1 : Int), .int .u64 (s.s2 : Int), .int .u64 (s.s3 : Int)] 28))) := ((Below.refl _ _).alloc (Nat.le_refl _) _).alloc (by simp) _
  have l0 := (HLD.out _ _ HB0.out).1
  generalize clRightB of many = R at *
  generalize partsB of s = P at *
  go_enter Try.func17, Try.ntmps17
  cases R with
  | false =>
    go_wp2_with (go_at_call 15; refine (HRT.out _).mono ?_; rintro e w5 ⟨rfl, hb5⟩; have HL5 := Lib.hid (low_trans HL0.out hb5); clear hb5)
    go_ret
    exact ⟨rfl, HL5.out⟩
  | true =>
    go_wp2_with (go_at_call 15; refine (HRT.out _).mono ?_; rintro e w5 ⟨rfl, hb5⟩; have HW5 : Hid (Below w.heap.size w w5 ∧ Blk w5 w.heap.size 25 cs ∧ Blk w5 (w.heap.size + 1) 28 #[.int .u64 (s.s0 : Int), .int .u64 (s.s1 : Int), .int .u64 (s.s2 : Int), .int .u64 (s.s3 : Int)]) := ⟨low_trans HL0.out hb5, keep0 HB0.out hb5, keep0 HS0.out hb5⟩; clear hb5)
    clear l0 HB0 HS0 HL0
    go_loopw [5] (fun i wr => ∃ b : Nat, b ≤ 256 ∧ i = .int .i64 b ∧ Hid (∀ j, j < b → inS s j = inS s (leastP of ((of.getD j 0).toNat : Int))) ∧ Hid (Below w.heap.size w wr ∧ Blk wr w.heap.size 25 cs ∧ Blk wr (w.heap.size + 1) 28 #[.int .u64 (s.s0 : Int), .int .u64 (s.s1 : Int), .int .u64 (s.s2 : Int), .int .u64 (s.s3 : Int)])) (fun i _ => 256 - (intOf i).toNat)
    case atStart => exact ⟨0, by omega, rfl, fun j hj => absurd hj (Nat.not_lt_zero j), HW5.out⟩
    case round =>
      obtain ⟨b, hb, rfl, HA, HW⟩ := hrel
      by_cases hlt : b < 256
      · have hlt' : (b : Int) < 256 := by omega
        have h0' : (0 : Int) ≤ b := by omega
        have HFB : Hid (inS s b ≠ inS s (leastP of ((of.getD b 0).toNat : Int)) → P = true) := HPF.out b hlt
        have HNX : Hid (inS s b = inS s (leastP of ((of.getD b 0).toNat : Int)) → ∀ j, j < b + 1 → inS s j = inS s (leastP of ((of.getD j 0).toNat : Int))) := fun e j hj => by
          by_cases hjb : j = b
          · subst hjb; exact e
          · exact HA.out j (by omega)
        have hlp := HLT.out b hlt
        have hcb : (of.getD b 0).toNat < 256 := UInt8.toNat_lt _
        have HSW : Hid (∀ W, Below wr.heap.size wr W → (Below wr.heap.size wr W ∧ (LoadCl (.pointer (some ⟨w.heap.size, 0, none⟩))).run Try.prog W = .ok (.agg cs) W ∧ W.cell? ⟨w.heap.size, b, none⟩ = some (.int .u8 ((of.getD b 0).toNat : Int)) ∧ W.cell? ⟨w.heap.size + 1, 0, none⟩ = some (.int .u64 (s.s0 : Int)) ∧ W.cell? ⟨w.heap.size + 1, 1, none⟩ = some (.int .u64 (s.s1 : Int)) ∧ W.cell? ⟨w.heap.size + 1, 2, none⟩ = some (.int .u64 (s.s2 : Int)) ∧ W.cell? ⟨w.heap.size + 1, 3, none⟩ = some (.int .u64 (s.s3 : Int)))) := fun W hW => by
          have h1 := HLD.out W _ (keep0 HW.out.2.1 hW)
          have h2 := keep0 HW.out.2.2 hW
          exact ⟨hW, h1.1, h1.2 b hlt, by rw [h2.cell]; rfl, by rw [h2.cell]; rfl, by rw [h2.cell]; rfl, by rw [h2.cell]; rfl⟩
        generalize (of.getD b 0).toNat = cb at *
        have hwcb : IntKind.i64.wrap (cb : Int) = (cb : Int) := IntWalk.i64_in _ (by omega)
        obtain ⟨lp, hlpe⟩ : ∃ lp, lp = leastP of (cb : Int) := ⟨_, rfl⟩
        have HLPE := Lib.hid hlpe
        rw [← hlpe] at hlp HFB HNX
        obtain ⟨ix, hix⟩ : ∃ i, i = inS s b := ⟨_, rfl⟩
        obtain ⟨iy, hiy⟩ : ∃ i, i = inS s lp := ⟨_, rfl⟩
        have HIX : Hid (∀ W, Calls Try.prog 34 #[.agg #[.int .u64 (s.s0 : Int), .int .u64 (s.s1 : Int), .int .u64 (s.s2 : Int), .int .u64 (s.s3 : Int)], .int .i64 (b : Int)] W fun e w' => e = .returned (.bool ix) ∧ Below W.heap.size W w') := fun W => by rw [hix]; exact HIN.out W b hlt
        have HIY : Hid (∀ W, Calls Try.prog 34 #[.agg #[.int .u64 (s.s0 : Int), .int .u64 (s.s1 : Int), .int .u64 (s.s2 : Int), .int .u64 (s.s3 : Int)], .int .i64 (lp : Int)] W fun e w' => e = .returned (.bool iy) ∧ Below W.heap.size W w') := fun W => by rw [hiy]; exact HIN.out W lp hlp
        have HLE : Hid (∀ W, Calls Try.prog 33 #[.agg cs, .int .i64 (cb : Int)] W fun e w' => e = .returned (.int .i64 (lp : Int)) ∧ Below W.heap.size W w') := fun W => by have := HLS.out W (cb : Int); rw [← HLPE.out] at this; exact this
        rw [← hix, ← hiy] at HFB HNX
        clear hlpe hix hiy HLPE
        have HS1 := Lib.hid (HSW.out _ (Below.refl _ wr).drew)
        go_wp2
        refine wp_region_held_drew (S := (fun W => Below wr.heap.size wr W ∧ (LoadCl (.pointer (some ⟨w.heap.size, 0, none⟩))).run Try.prog W = .ok (.agg cs) W ∧ W.cell? ⟨w.heap.size, b, none⟩ = some (.int .u8 (cb : Int)) ∧ W.cell? ⟨w.heap.size + 1, 0, none⟩ = some (.int .u64 (s.s0 : Int)) ∧ W.cell? ⟨w.heap.size + 1, 1, none⟩ = some (.int .u64 (s.s1 : Int)) ∧ W.cell? ⟨w.heap.size + 1, 2, none⟩ = some (.int .u64 (s.s2 : Int)) ∧ W.cell? ⟨w.heap.size + 1, 3, none⟩ = some (.int .u64 (s.s3 : Int)))) (by kernel_rfl) HS1.out (fun hS => ?_)
        refine take_val (i := 0) rfl (by kernel_rfl) (by kernel_rfl) (by kernel_rfl) (fun _ _ _ h => h) rfl (fun w hSw => by (try dsimp only at hSw); go_simp; try with_reducible rfl) hS ?_; try simp only [Act.put, List.setIfInBounds_toArray, List.set_cons_zero, List.set_cons_succ]
        refine take_val (i := 1) rfl (by kernel_rfl) (by kernel_rfl) (by kernel_rfl) (fun _ _ _ h => h) rfl (fun w hSw => by (try dsimp only at hSw); go_simp; try with_reducible rfl) hS ?_; try simp only [Act.put, List.setIfInBounds_toArray, List.set_cons_zero, List.set_cons_succ]
        refine take_val (i := 3) rfl (by kernel_rfl) (by kernel_rfl) (by kernel_rfl) (fun _ _ _ h => h) rfl (fun w hSw => by (try dsimp only at hSw); go_simp; try with_reducible rfl) hS ?_; try simp only [Act.put, List.setIfInBounds_toArray, List.set_cons_zero, List.set_cons_succ]
        refine take_val (i := 4) rfl (by kernel_rfl) (by kernel_rfl) (by kernel_rfl) (fun _ _ _ h => h) rfl (fun w hSw => by (try dsimp only at hSw); go_simp; try with_reducible rfl) hS ?_; try simp only [Act.put, List.setIfInBounds_toArray, List.set_cons_zero, List.set_cons_succ]
        refine take_val (i := 5) rfl (by kernel_rfl) (by kernel_rfl) (by kernel_rfl) (fun _ _ _ h => h) rfl (fun w hSw => by (try dsimp only at hSw); go_simp; try with_reducible rfl) hS ?_; try simp only [Act.put, List.setIfInBounds_toArray, List.set_cons_zero, List.set_cons_succ]
        refine take_val (i := 6) rfl (by kernel_rfl) (by kernel_rfl) (by kernel_rfl) (fun _ _ _ h => h) rfl (fun w hSw => by (try dsimp only at hSw); go_simp; try with_reducible rfl) hS ?_; try simp only [Act.put, List.setIfInBounds_toArray, List.set_cons_zero, List.set_cons_succ]
        refine take_val (i := 7) rfl (by kernel_rfl) (by kernel_rfl) (by kernel_rfl) (fun _ _ _ h => h) rfl (fun w hSw => by (try dsimp only at hSw); go_simp; try with_reducible rfl) hS ?_; try simp only [Act.put, List.setIfInBounds_toArray, List.set_cons_zero, List.set_cons_succ]
        refine take_val (i := 8) rfl (by kernel_rfl) (by kernel_rfl) (by kernel_rfl) (fun _ _ _ h => h) rfl (fun w hSw => by (try dsimp only at hSw); go_simp; try with_reducible rfl) hS ?_; try simp only [Act.put, List.setIfInBounds_toArray, List.set_cons_zero, List.set_cons_succ]
        refine take_val (i := 9) rfl (by kernel_rfl) (by kernel_rfl) (by kernel_rfl) (fun _ _ _ h => h) rfl (fun w hSw => by (try dsimp only at hSw); go_simp; try with_reducible rfl) hS ?_; try simp only [Act.put, List.setIfInBounds_toArray, List.set_cons_zero, List.set_cons_succ]
        refine take_call (i := 2) rfl (by kernel_rfl) rfl (fun K hK => ?_)
        go_simp; refine (HIX.out _).mono ?_; rintro e w8 ⟨rfl, hb8⟩; go_wp2_with fail
        refine hK.out _ _ (HSW.out _ (low0 hS.1 hb8 (Nat.le_refl _))) (fun hS => ?_); clear hK K; try simp only [Act.put, List.setIfInBounds_toArray, List.set_cons_zero, List.set_cons_succ]
        refine take_call (i := 10) rfl (by kernel_rfl) rfl (fun K hK => ?_)
        go_simp; refine (HLE.out _).mono ?_; rintro e w9 ⟨rfl, hb9⟩; go_wp2_with fail
        refine hK.out _ _ (HSW.out _ (low0 hS.1 hb9 (Nat.le_refl _))) (fun hS => ?_); clear hK K; try simp only [Act.put, List.setIfInBounds_toArray, List.set_cons_zero, List.set_cons_succ]
        refine take_call (i := 11) rfl (by kernel_rfl) rfl (fun K hK => ?_)
        go_simp; refine (HIY.out _).mono ?_; rintro e w10 ⟨rfl, hb10⟩; go_wp2_with fail
        refine hK.out _ _ (HSW.out _ (low0 hS.1 hb10 (Nat.le_refl _))) (fun hS => ?_); clear hK K; try simp only [Act.put, List.setIfInBounds_toArray, List.set_cons_zero, List.set_cons_succ]
        refine take_val (i := 12) rfl (by kernel_rfl) (by kernel_rfl) (by kernel_rfl) (fun _ _ _ h => h) rfl (fun w hSw => by (try dsimp only at hSw); go_simp; try with_reducible rfl) hS ?_; try simp only [Act.put, List.setIfInBounds_toArray, List.set_cons_zero, List.set_cons_succ]
        refine wpAnyH_done (by kernel_rfl) ?_ _
        have HS5 := Lib.hid hS.1
        clear hS HSW
        cases hne : (ix == iy) with
        | true =>
          have hne2 : (ix != iy) = false := by rw [bne, hne]; rfl
          have HE := Lib.hid (HNX.out (beq_iff_eq.1 hne))
          have HW6 : Hid (Below w.heap.size w w10 ∧ Blk w10 w.heap.size 25 cs ∧ Blk w10 (w.heap.size + 1) 28 #[.int .u64 (s.s0 : Int), .int .u64 (s.s1 : Int), .int .u64 (s.s2 : Int), .int .u64 (s.s3 : Int)]) := ⟨low_trans HW.out.1 HS5.out, keep0 HW.out.2.1 HS5.out, keep0 HW.out.2.2 HS5.out⟩
          clear hne
          go_wp2
          go_roundw
          case rel => exact ⟨b + 1, by omega, by go_num, HE, HW6.out⟩
          case measure => simp [intOf]; omega
        | false =>
          have hne2 : (ix != iy) = true := by rw [bne, hne]; rfl
          have HE := Lib.hid (HFB.out (beq_eq_false_iff_ne.1 hne))
          have HW6 := Lib.hid (low_trans HW.out.1 HS5.out)
          clear hne
          go_wp2
          go_ret
          exact ⟨ret_bool (by rw [HE.out]; rfl), HW6.out⟩
      · obtain rfl : b = 256 := by omega
        have HE : Hid (P = false) := HPL.out HA.out
        go_wp2
        go_ret
        exact ⟨ret_bool (by rw [HE.out]; rfl), HW.out.1⟩
end Go.Proofs.Ytlaccbkhlkomhaa
