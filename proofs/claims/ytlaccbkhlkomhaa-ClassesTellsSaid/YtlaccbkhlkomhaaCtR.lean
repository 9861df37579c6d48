/-
  The contract of frankingref04.Right. Conditions: the tree lies in memory.
-/
import Derived.Test.YtlaccbkhlkomhaaSmP
import Derived.Deep.CutBlock
namespace Go.Proofs.Ytlaccbkhlkomhaa
open Go.RowKit

theorem preL_all (p : Ry → Bool) : ∀ (ks : List Ry), (preL ks).all p = ks.all (fun t => (preR t).all p)
  | [] => by simp [preL]
  | t :: r => by
    rw [show t :: r = [t] ++ r from rfl, preL_app, List.all_append, preL_all p r, show preL [t] = preR t by simp [preL]]
    simp
theorem rightR_kids (t : Ry) : rightR t = (aloneR t && t.kids.all rightR) := by
  unfold rightR
  rw [preR_eq, List.all_cons, preL_all]
def RRSpec (w : World) (t : Ry) : Prop := ∀ W, Below w.heap.size w W → Calls Try.prog 29 #[.agg (ryCells t).toArray] W fun e w2 => e = .returned (.bool (rightR t)) ∧ Below W.heap.size W w2
set_option maxRecDepth 100000 in
set_option maxHeartbeats 4000000 in
theorem rRight_step {w : World} {S : Nat → Prop} (t : Ry) (h : RyIn w S t.a t.cap t.kids) (ih : ∀ x ∈ t.kids, RRSpec w x) : RRSpec w t := by
  intro w' hb
  have hse : ∀ W, (Op.equalIn 10000 28 (.agg #[.int .u64 (t.s0 : Int), .int .u64 (t.s1 : Int), .int .u64 (t.s2 : Int), .int .u64 (t.s3 : Int)]) (.agg #[.int .u64 0, .int .u64 0, .int .u64 0, .int .u64 0])).run Try.prog W = .ok (noSetB t) W := fun W => by
    have := set_eq (t.s0 : Int) t.s1 t.s2 t.s3 0 0 0 0 W
    refine this.trans ?_
    congr 1
    unfold noSetB
    rw [Bool.eq_iff_iff]
    simp
    omega
  have HH := Lib.hid h
  have HIH := Lib.hid ih
  have HB := Lib.hid hb
  have hml := h.len.1
  have HRK := Lib.hid (rightR_kids t)
  have HAL : Hid (∀ k n B, k = t.kind → n = t.kids.length → B = noSetB t → aloneR t = if k = 0 then B && n == 0 else if k = 1 then !B && n == 0 else if k = 2 ∨ k = 3 then B && decide (2 ≤ n) else if k = 4 then B && n == 1 else false) := fun k n B hk hn hB => by
    subst hk hn hB
    rfl
  have HAL2 := Lib.hid (HAL.out _ _ _ rfl rfl rfl)
  obtain ⟨n, hn⟩ : ∃ n, n = t.kids.length := ⟨_, rfl⟩
  have HN := Lib.hid hn
  rw [← hn] at hml HAL2
  unfold maxLen at hml
  have HBX := Lib.hid ((Blk.new w' 42 (ryCells t).toArray).alloc (.cells #[.int .u64 0, .int .u64 0, .int .u64 0, .int .u64 0] 28))
  have HBZ := Lib.hid (Blk.new_at (w'.alloc (.cells (ryCells t).toArray 42)) 28 #[.int .u64 0, .int .u64 0, .int .u64 0, .int .u64 0] (w'.heap.size + 1) (by simp))
  have HLW : Hid (Below w'.heap.size w' ((w'.alloc (.cells (ryCells t).toArray 42)).alloc (.cells #[.int .u64 0, .int .u64 0, .int .u64 0, .int .u64 0] 28))) := ((Below.refl _ _).alloc (Nat.le_refl _) _).alloc (by simp) _
  unfold ryCells at HBX HBZ HLW ⊢
  rw [← hn] at HBX HBZ HLW ⊢
  clear h ih hb hn HAL
  go_enter Try.func29, Try.ntmps29
  go_upto_region 2 with (fail)
  generalize (w'.alloc (.cells #[.int .u8 (t.kind : Int), .int .u64 (t.s0 : Int), .int .u64 (t.s1 : Int), .int .u64 (t.s2 : Int), .int .u64 (t.s3 : Int), .slice t.a n t.cap] 42)).alloc (.cells #[.int .u64 0, .int .u64 0, .int .u64 0, .int .u64 0] 28) = W0 at *
  obtain ⟨B0, hB0⟩ : ∃ B0, B0 = w'.heap.size := ⟨_, rfl⟩
  have HB0 := Lib.hid hB0
  rw [← hB0] at HBX HBZ ⊢
  clear hB0
  have t0 := HBX.out.cell 0
  have t1 := HBX.out.cell 1
  have t2 := HBX.out.cell 2
  have t3 := HBX.out.cell 3
  have t4 := HBX.out.cell 4
  have t5 := HBX.out.cell 5
  simp at t0 t1 t2 t3 t4 t5
  have z0 := HBZ.out.cell 0
  have z1 := HBZ.out.cell 1
  have z2 := HBZ.out.cell 2
  have z3 := HBZ.out.cell 3
  simp at z0 z1 z2 z3
  obtain ⟨A, hA⟩ : ∃ A, A = aloneR t := ⟨_, rfl⟩
  rw [← hA] at HAL2 HRK
  clear hA
  go_upto_block 0 with fail
  go_cut [5] (fun v wx => v = .bool A ∧ W0 = wx)
  case first =>
    clear HRK HH HIH HB HN HBX HBZ HLW HB0
    generalize t.kind = k at *
    generalize t.s0 = s0 at *
    generalize t.s1 = s1 at *
    generalize t.s2 = s2 at *
    generalize t.s3 = s3 at *
    generalize t.a = a at *
    generalize t.cap = c at *
    generalize noSetB t = B at *
    cases hz0 : ((n : Int) == 0) <;> cases hz1 : ((n : Int) == 1) <;> go_wp2
    all_goals go_meet
    all_goals refine ⟨congrArg Value.bool ?_, rfl⟩
    all_goals rw [HAL2.out]
    all_goals clear HAL2 hse t0 t1 t2 t3 t4 t5 z0 z1 z2 z3
    all_goals simp only [beq_iff_eq, beq_eq_false_iff_ne, ne_eq] at *
    all_goals (cases B <;> simp at *)
    all_goals (first | omega | (repeat' split) <;> first | omega | (simp at *; omega) | (exfalso; omega) | (rw [Bool.eq_iff_iff]; simp; done) | (rw [Bool.eq_iff_iff]; simp; omega) | (simp_all; done) | (simp_all; omega))
  case rest =>
    obtain ⟨rfl, rfl⟩ := hcut
    clear hse z0 z1 z2 z3 HAL2 t0 t1 t2 t3 t4
    go_wp2
    go_loopw [5, 6] (fun v i wr => ∃ k : Nat, k ≤ n ∧ i = .int .i64 k ∧ v = .bool (A && (t.kids.take k).all rightR) ∧ Hid (Below W0.heap.size W0 wr)) (fun _ i _ => n - (intOf i).toNat)
    case atStart => exact ⟨0, Nat.zero_le _, rfl, by simp, Below.refl _ _⟩
    case round =>
      obtain ⟨k, hk, rfl, rfl, HBL⟩ := hrel
      obtain ⟨b, hb⟩ : ∃ b, b = (A && (t.kids.take k).all rightR) := ⟨_, rfl⟩
      have HBB := Lib.hid hb
      rw [← hb]
      clear hb
      have HRET : Hid (Below w'.heap.size w' wr) := HLW.out.trans (HBL.out.mono HLW.out.size)
      by_cases hlt : k < n
      · have hlt' : (k : Int) < n := by omega
        have h0' : (0 : Int) ≤ k := by omega
        cases b with
        | false =>
          have HF : Hid (rightR t = false) := by
            show _ = _
            rw [HRK.out]
            have h1 := HBB.out
            cases hA : A with
            | false => rfl
            | true =>
              rw [hA, Bool.true_and] at h1
              rw [Bool.true_and, ← List.take_append_drop k t.kids, List.all_append, ← h1]
              rfl
          go_wp2
          go_ret
          exact ⟨ret_bool HF.out.symm, HRET.out⟩
        | true =>
          have hko : k < t.kids.length := by rw [← HN.out]; exact hlt
          have hwb : Below w.heap.size w wr := HB.out.trans (HRET.out.mono HB.out.size)
          obtain ⟨g, off, hab, hbl, _, hxok, hxc, hxk⟩ := HH.out.at_ hko
          rw [hab] at t5
          obtain ⟨x, hx⟩ : ∃ x, x = t.kids[k]'hko := ⟨_, rfl⟩
          rw [← hx] at hxc hxk hxok
          have hcw : ∀ o, wr.cell? ⟨g, o, none⟩ = w.cell? ⟨g, o, none⟩ := fun o => hwb.cell (p := ⟨g, o, none⟩) hbl
          have a0 := (hcw (off + k * 6 + 0)).trans (hxc 0 _ rfl)
          have a1 := (hcw (off + k * 6 + 1)).trans (hxc 1 _ rfl)
          have a2 := (hcw (off + k * 6 + 2)).trans (hxc 2 _ rfl)
          have a3 := (hcw (off + k * 6 + 3)).trans (hxc 3 _ rfl)
          have a4 := (hcw (off + k * 6 + 4)).trans (hxc 4 _ rfl)
          have a5 := (hcw (off + k * 6 + 5)).trans (hxc 5 _ rfl)
          rw [Nat.add_zero] at a0
          have q5 : wr.cell? ⟨B0, 5, none⟩ = some (.slice (some ⟨g, off, none⟩) n t.cap) := by
            rw [(HBX.out.below HBL.out HBX.out.lt).cell 5, hab]
            rfl
          have HREC := Lib.hid (HIH.out x (by rw [hx]; exact List.getElem_mem _) wr hwb)
          have HST : Hid ((t.kids.take (k + 1)).all rightR = ((t.kids.take k).all rightR && rightR x)) := by
            show _ = _
            rw [List.take_succ_eq_append_getElem hko, List.all_append, ← hx]
            simp
          obtain ⟨xl, hxl⟩ : ∃ xl, xl = x.kids.length := ⟨_, rfl⟩
          unfold ryCells at HREC
          rw [← hxl] at a5 HREC
          clear hx hxc hxk hxok hcw hbl hxl hwb hab t5
          go_wp2_with (go_at_call 29; refine HREC.out.mono ?_; rintro e w5 ⟨rfl, hb5⟩; have HB5 : Hid (Below W0.heap.size W0 w5) := low_trans HBL.out hb5; clear hb5)
          go_roundw
          case rel => exact ⟨k + 1, by omega, by go_num, by rw [HST.out, ← Bool.and_assoc, ← HBB.out, Bool.true_and], HB5.out⟩
          case measure => simp [intOf]; omega
      · obtain rfl : k = n := by omega
        have HF : Hid (b = rightR t) := by show _ = _; rw [HBB.out, HRK.out, HN.out, List.take_length]
        go_wp2
        go_ret
        exact ⟨ret_bool HF.out, HRET.out⟩
theorem rRight_aux {w : World} {S : Nat → Prop} {a : Option Addr} {c : Nat} {ks : List Ry} (h : RyIn w S a c ks) : ∀ x ∈ ks, RRSpec w x := by
  induction h with
  | nil a c => intro x hx; cases hx
  | row ks b off c hS hlt hn hcap hm hok hc hk ih =>
    intro x hx
    obtain ⟨i, hi, rfl⟩ := List.getElem_of_mem hx
    exact rRight_step _ (hk i hi) (ih i hi)
theorem rReRight_any (t : Ry) (w W : World) (hk : RyIn w (· < w.heap.size) t.a t.cap t.kids) (hb : Below w.heap.size w W) : Calls Try.prog 29 #[.agg (ryCells t).toArray] W fun e w2 => e = .returned (.bool (rightR t)) ∧ Below W.heap.size W w2 :=
  rRight_step t hk (rRight_aux hk) W hb
end Go.Proofs.Ytlaccbkhlkomhaa
