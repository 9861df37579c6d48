/-
  nfa.rightState at a split; the whole contract. No conditions.
-/
import Derived.Test.YtdckjjkaoecgaaaDoorNrC
namespace Go.Proofs.YtdckjjkaoecgaaaDoor
open Go.RowKit

set_option maxRecDepth 100000 in
set_option maxHeartbeats 12000000 in
theorem rightState_2 (s : NS) (many : Int) (w : World) (h2 : s.kind = 2) : Calls Tryd.prog 42 #[.agg (nsCells s).toArray, .int .i64 many] w fun e w' => e = .returned (.bool (rightN s many)) ∧ Below w.heap.size w w' := by
  have HB := Lib.hid ((Below.refl w.heap.size w).alloc (Nat.le_refl _) (.cells (nsCells s).toArray 56))
  have HBK := Lib.hid (Blk.new w 56 (nsCells s).toArray)
  have HEN := Lib.hid (fun W => end_any s.tag W)
  have HSP := Lib.hid (fun W => split_any s.a s.b W)
  have HBY := Lib.hid (fun W => onByte_any (Ry.mk 1 s.s0 s.s1 s.s2 s.s3 none 0 []) s.a W)
  have hNO : ∀ W, (Op.equalIn 10000 44 (.agg #[.int .u64 (s.s0 : Int), .int .u64 (s.s1 : Int), .int .u64 (s.s2 : Int), .int .u64 (s.s3 : Int)]) (.agg #[.int .u64 0, .int .u64 0, .int .u64 0, .int .u64 0])).run Tryd.prog W = .ok (nosetN s) W := fun W => by
    refine (set_eq_at 9998 (s.s0 : Int) s.s1 s.s2 s.s3 0 0 0 0 W).trans ?_
    congr 1
    unfold nosetN
    rw [Bool.eq_iff_iff]
    simp
  obtain ⟨R, hR⟩ : ∃ R, R = rightN s many := ⟨_, rfl⟩
  have HR : Hid (R = rightN s many) := hR
  have hE0 := fun W => ns_eq s (endN s.tag) W
  have hE1 := fun W => ns_eq s ⟨1, s.s0, s.s1, s.s2, s.s3, s.a, 0, 0⟩ W
  have hE2 := fun W => ns_eq s (splitN s.a s.b) W
  have HR0 : Hid (s.kind = 0 → R = (nsSame s (endN s.tag) && belowP s.tag 200)) := fun h => by rw [hR]; unfold rightN; rw [if_pos h]
  have HR1 : Hid (s.kind = 1 → R = (nsSame s ⟨1, s.s0, s.s1, s.s2, s.s3, s.a, 0, 0⟩ && (!nosetN s && belowP s.a many))) := fun h => by rw [hR]; unfold rightN; rw [if_neg (by omega), if_pos h]
  have HR2 : Hid (s.kind = 2 → R = (nsSame s (splitN s.a s.b) && (belowP s.a many && belowP s.b many))) := fun h => by rw [hR]; unfold rightN; rw [if_neg (by omega), if_neg (by omega), if_pos h]
  have HRN : Hid (¬ s.kind = 0 → ¬ s.kind = 1 → ¬ s.kind = 2 → R = false) := fun h1 h2 h3 => by rw [hR]; unfold rightN; rw [if_neg h1, if_neg h2, if_neg h3]
  rw [← hR]
  clear hR HR
  have HSB := Lib.hid (below_any2 s.tag 200)
  have HAB := Lib.hid (below_any2 s.a many)
  have HBB := Lib.hid (below_any2 s.b many)
  rw [show byteN (Ry.mk 1 s.s0 s.s1 s.s2 s.s3 none 0 []) s.a = ⟨1, s.s0, s.s1, s.s2, s.s3, s.a, 0, 0⟩ from rfl] at HBY
  generalize (nsCells (endN s.tag)).toArray = C0 at *
  generalize (nsCells ⟨1, s.s0, s.s1, s.s2, s.s3, s.a, 0, 0⟩).toArray = C1 at *
  generalize (nsCells (splitN s.a s.b)).toArray = C2 at *
  unfold nsCells at HB HBK hE0 hE1 hE2 ⊢
  have HRR := Lib.hid (HR2.out h2)
  generalize nsSame s (splitN s.a s.b) = N0 at *
  generalize belowP s.a many = T0 at *
  generalize belowP s.b many = U0 at *
  have hk : (s.kind : Int) = 2 := by omega
  rw [hk] at HB HBK hE2 ⊢
  clear hE0 hE1 HR0 HR1 HR2 HRN HBY HEN HSB hNO
  go_enter Tryd.func42, Tryd.ntmps42
  cases N0 with
  | true =>
    cases T0 with
    | true =>
      go_upto_region 7 with (fail)
      generalize w.alloc (.cells #[.int .u8 2, .int .u64 (s.s0 : Int), .int .u64 (s.s1 : Int), .int .u64 (s.s2 : Int), .int .u64 (s.s3 : Int), .int .i64 s.a, .int .i64 s.b, .int .i64 s.tag] 56) = W0 at *
      have HSA : Hid (∀ W, Blk W w.heap.size 56 #[.int .u8 2, .int .u64 (s.s0 : Int), .int .u64 (s.s1 : Int), .int .u64 (s.s2 : Int), .int .u64 (s.s3 : Int), .int .i64 s.a, .int .i64 s.b, .int .i64 s.tag] → W.cell? ⟨w.heap.size, 0, none⟩ = some (.int .u8 2) ∧ W.cell? ⟨w.heap.size, 1, none⟩ = some (.int .u64 (s.s0 : Int)) ∧ W.cell? ⟨w.heap.size, 2, none⟩ = some (.int .u64 (s.s1 : Int)) ∧ W.cell? ⟨w.heap.size, 3, none⟩ = some (.int .u64 (s.s2 : Int)) ∧ W.cell? ⟨w.heap.size, 4, none⟩ = some (.int .u64 (s.s3 : Int)) ∧ W.cell? ⟨w.heap.size, 5, none⟩ = some (.int .i64 s.a) ∧ W.cell? ⟨w.heap.size, 6, none⟩ = some (.int .i64 s.b) ∧ W.cell? ⟨w.heap.size, 7, none⟩ = some (.int .i64 s.tag)) := fun W h => ⟨h.cell 0, h.cell 1, h.cell 2, h.cell 3, h.cell 4, h.cell 5, h.cell 6, h.cell 7⟩
      have HS1 := Lib.hid (HSA.out _ HBK.out.drew)
      go_region_held3 (fun W => W.cell? ⟨w.heap.size, 0, none⟩ = some (.int .u8 2) ∧ W.cell? ⟨w.heap.size, 1, none⟩ = some (.int .u64 (s.s0 : Int)) ∧ W.cell? ⟨w.heap.size, 2, none⟩ = some (.int .u64 (s.s1 : Int)) ∧ W.cell? ⟨w.heap.size, 3, none⟩ = some (.int .u64 (s.s2 : Int)) ∧ W.cell? ⟨w.heap.size, 4, none⟩ = some (.int .u64 (s.s3 : Int)) ∧ W.cell? ⟨w.heap.size, 5, none⟩ = some (.int .i64 s.a) ∧ W.cell? ⟨w.heap.size, 6, none⟩ = some (.int .i64 s.b) ∧ W.cell? ⟨w.heap.size, 7, none⟩ = some (.int .i64 s.tag))
        (first | (with_reducible exact HS1.out) | (with_reducible exact HS2.out))
        (first
        | (go_at_call 54; refine (HSP.out W0.drew).mono ?_; rintro e w5 ⟨rfl, hb5⟩; have HB5 := Lib.hid hb5; have HS2 := Lib.hid (HSA.out _ (HBK.out.drew.below hb5 HBK.out.drew.lt)); clear hb5)
        | (go_at_call 41; (first | (with_reducible refine (HAB.out _).mono ?_) | (with_reducible refine (HBB.out _).mono ?_)); rintro e w6 ⟨rfl, rfl⟩))
      all_goals go_wp2
      all_goals go_ret
      all_goals exact ⟨ret_bool (by rw [HRR.out]; simp), HB.out.drew.trans (HB5.out.mono HB.out.size)⟩
    | false =>
      go_upto_region 7 with (fail)
      generalize w.alloc (.cells #[.int .u8 2, .int .u64 (s.s0 : Int), .int .u64 (s.s1 : Int), .int .u64 (s.s2 : Int), .int .u64 (s.s3 : Int), .int .i64 s.a, .int .i64 s.b, .int .i64 s.tag] 56) = W0 at *
      have HSA : Hid (∀ W, Blk W w.heap.size 56 #[.int .u8 2, .int .u64 (s.s0 : Int), .int .u64 (s.s1 : Int), .int .u64 (s.s2 : Int), .int .u64 (s.s3 : Int), .int .i64 s.a, .int .i64 s.b, .int .i64 s.tag] → W.cell? ⟨w.heap.size, 0, none⟩ = some (.int .u8 2) ∧ W.cell? ⟨w.heap.size, 1, none⟩ = some (.int .u64 (s.s0 : Int)) ∧ W.cell? ⟨w.heap.size, 2, none⟩ = some (.int .u64 (s.s1 : Int)) ∧ W.cell? ⟨w.heap.size, 3, none⟩ = some (.int .u64 (s.s2 : Int)) ∧ W.cell? ⟨w.heap.size, 4, none⟩ = some (.int .u64 (s.s3 : Int)) ∧ W.cell? ⟨w.heap.size, 5, none⟩ = some (.int .i64 s.a) ∧ W.cell? ⟨w.heap.size, 6, none⟩ = some (.int .i64 s.b) ∧ W.cell? ⟨w.heap.size, 7, none⟩ = some (.int .i64 s.tag)) := fun W h => ⟨h.cell 0, h.cell 1, h.cell 2, h.cell 3, h.cell 4, h.cell 5, h.cell 6, h.cell 7⟩
      have HS1 := Lib.hid (HSA.out _ HBK.out.drew)
      obtain ⟨q0, q1, q2, q3, q4, q5, q6, q7⟩ := HS1.out
      first
        | (go_region_with
            (first
            | (go_at_call 54; refine (HSP.out W0.drew).mono ?_; rintro e w5 ⟨rfl, hb5⟩; have HB5 := Lib.hid hb5; have HS2 := Lib.hid (HSA.out _ (HBK.out.drew.below hb5 HBK.out.drew.lt)); obtain ⟨r0, r1, r2, r3, r4, r5, r6, r7⟩ := HS2.out; clear hb5)
            | (go_at_call 41; (first | (refine (HAB.out _).mono ?_)); rintro e w6 ⟨rfl, rfl⟩)))
        | fail
      all_goals go_wp2
      all_goals go_ret
      all_goals exact ⟨ret_bool (by rw [HRR.out]; simp), HB.out.drew.trans (HB5.out.mono HB.out.size)⟩
  | false =>
    go_upto_region 7 with (fail)
    generalize w.alloc (.cells #[.int .u8 2, .int .u64 (s.s0 : Int), .int .u64 (s.s1 : Int), .int .u64 (s.s2 : Int), .int .u64 (s.s3 : Int), .int .i64 s.a, .int .i64 s.b, .int .i64 s.tag] 56) = W0 at *
    have HSA : Hid (∀ W, Blk W w.heap.size 56 #[.int .u8 2, .int .u64 (s.s0 : Int), .int .u64 (s.s1 : Int), .int .u64 (s.s2 : Int), .int .u64 (s.s3 : Int), .int .i64 s.a, .int .i64 s.b, .int .i64 s.tag] → W.cell? ⟨w.heap.size, 0, none⟩ = some (.int .u8 2) ∧ W.cell? ⟨w.heap.size, 1, none⟩ = some (.int .u64 (s.s0 : Int)) ∧ W.cell? ⟨w.heap.size, 2, none⟩ = some (.int .u64 (s.s1 : Int)) ∧ W.cell? ⟨w.heap.size, 3, none⟩ = some (.int .u64 (s.s2 : Int)) ∧ W.cell? ⟨w.heap.size, 4, none⟩ = some (.int .u64 (s.s3 : Int)) ∧ W.cell? ⟨w.heap.size, 5, none⟩ = some (.int .i64 s.a) ∧ W.cell? ⟨w.heap.size, 6, none⟩ = some (.int .i64 s.b) ∧ W.cell? ⟨w.heap.size, 7, none⟩ = some (.int .i64 s.tag)) := fun W h => ⟨h.cell 0, h.cell 1, h.cell 2, h.cell 3, h.cell 4, h.cell 5, h.cell 6, h.cell 7⟩
    have HS1 := Lib.hid (HSA.out _ HBK.out.drew)
    obtain ⟨q0, q1, q2, q3, q4, q5, q6, q7⟩ := HS1.out
    first
      | (go_region_with
          (first
          | (go_at_call 54; refine (HSP.out W0.drew).mono ?_; rintro e w5 ⟨rfl, hb5⟩; have HB5 := Lib.hid hb5; have HS2 := Lib.hid (HSA.out _ (HBK.out.drew.below hb5 HBK.out.drew.lt)); obtain ⟨r0, r1, r2, r3, r4, r5, r6, r7⟩ := HS2.out; clear hb5)))
      | fail
    all_goals go_wp2
    all_goals go_ret
    all_goals exact ⟨ret_bool (by rw [HRR.out]; simp), HB.out.drew.trans (HB5.out.mono HB.out.size)⟩
set_option maxRecDepth 100000 in
set_option maxHeartbeats 12000000 in
theorem rightState_n (s : NS) (many : Int) (w : World) (h0 : ¬ s.kind = 0) (h1 : ¬ s.kind = 1) (h2 : ¬ s.kind = 2) : Calls Tryd.prog 42 #[.agg (nsCells s).toArray, .int .i64 many] w fun e w' => e = .returned (.bool (rightN s many)) ∧ Below w.heap.size w w' := by
  have HB := Lib.hid ((Below.refl w.heap.size w).alloc (Nat.le_refl _) (.cells (nsCells s).toArray 56))
  have HBK := Lib.hid (Blk.new w 56 (nsCells s).toArray)
  have HEN := Lib.hid (fun W => end_any s.tag W)
  have HSP := Lib.hid (fun W => split_any s.a s.b W)
  have HBY := Lib.hid (fun W => onByte_any (Ry.mk 1 s.s0 s.s1 s.s2 s.s3 none 0 []) s.a W)
  have hNO : ∀ W, (Op.equalIn 10000 44 (.agg #[.int .u64 (s.s0 : Int), .int .u64 (s.s1 : Int), .int .u64 (s.s2 : Int), .int .u64 (s.s3 : Int)]) (.agg #[.int .u64 0, .int .u64 0, .int .u64 0, .int .u64 0])).run Tryd.prog W = .ok (nosetN s) W := fun W => by
    refine (set_eq_at 9998 (s.s0 : Int) s.s1 s.s2 s.s3 0 0 0 0 W).trans ?_
    congr 1
    unfold nosetN
    rw [Bool.eq_iff_iff]
    simp
  obtain ⟨R, hR⟩ : ∃ R, R = rightN s many := ⟨_, rfl⟩
  have HR : Hid (R = rightN s many) := hR
  have hE0 := fun W => ns_eq s (endN s.tag) W
  have hE1 := fun W => ns_eq s ⟨1, s.s0, s.s1, s.s2, s.s3, s.a, 0, 0⟩ W
  have hE2 := fun W => ns_eq s (splitN s.a s.b) W
  have HR0 : Hid (s.kind = 0 → R = (nsSame s (endN s.tag) && belowP s.tag 200)) := fun h => by rw [hR]; unfold rightN; rw [if_pos h]
  have HR1 : Hid (s.kind = 1 → R = (nsSame s ⟨1, s.s0, s.s1, s.s2, s.s3, s.a, 0, 0⟩ && (!nosetN s && belowP s.a many))) := fun h => by rw [hR]; unfold rightN; rw [if_neg (by omega), if_pos h]
  have HR2 : Hid (s.kind = 2 → R = (nsSame s (splitN s.a s.b) && (belowP s.a many && belowP s.b many))) := fun h => by rw [hR]; unfold rightN; rw [if_neg (by omega), if_neg (by omega), if_pos h]
  have HRN : Hid (¬ s.kind = 0 → ¬ s.kind = 1 → ¬ s.kind = 2 → R = false) := fun h1 h2 h3 => by rw [hR]; unfold rightN; rw [if_neg h1, if_neg h2, if_neg h3]
  rw [← hR]
  clear hR HR
  have HSB := Lib.hid (below_any2 s.tag 200)
  have HAB := Lib.hid (below_any2 s.a many)
  have HBB := Lib.hid (below_any2 s.b many)
  rw [show byteN (Ry.mk 1 s.s0 s.s1 s.s2 s.s3 none 0 []) s.a = ⟨1, s.s0, s.s1, s.s2, s.s3, s.a, 0, 0⟩ from rfl] at HBY
  generalize (nsCells (endN s.tag)).toArray = C0 at *
  generalize (nsCells ⟨1, s.s0, s.s1, s.s2, s.s3, s.a, 0, 0⟩).toArray = C1 at *
  generalize (nsCells (splitN s.a s.b)).toArray = C2 at *
  unfold nsCells at HB HBK hE0 hE1 hE2 ⊢
  have HRR := Lib.hid (HRN.out h0 h1 h2)
  have e0 : ¬ (s.kind : Int) = 0 := by omega
  have e1 : ¬ (s.kind : Int) = 1 := by omega
  have e2 : ¬ (s.kind : Int) = 2 := by omega
  clear hE0 hE1 hE2 HR0 HR1 HR2 HRN HSP HBY HEN HSB HAB HBB hNO
  go_enter Tryd.func42, Tryd.ntmps42
  go_wp2
  go_ret
  exact ⟨ret_bool (by rw [HRR.out]), HB.out⟩
theorem rightState_any (s : NS) (many : Int) (w : World) : Calls Tryd.prog 42 #[.agg (nsCells s).toArray, .int .i64 many] w fun e w' => e = .returned (.bool (rightN s many)) ∧ Below w.heap.size w w' := by
  by_cases h0 : s.kind = 0
  · exact rightState_0 s many w h0
  · by_cases h1 : s.kind = 1
    · exact rightState_1 s many w h1
    · by_cases h2 : s.kind = 2
      · exact rightState_2 s many w h2
      · exact rightState_n s many w h0 h1 h2
end Go.Proofs.YtdckjjkaoecgaaaDoor
