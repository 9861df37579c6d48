/-
  The contract of frankingref10.Step. Conditions: the table lies in memory.
-/
import Derived.Test.YtkgfjapflpjdbaaTrE
namespace Go.Proofs.Ytkgfjapflpjdbaa
open Go.RowKit

attribute [local go_sem ↓] loadOp_C loadOp_T
set_option maxRecDepth 100000 in
set_option maxHeartbeats 2000000 in
theorem rStep_any (t : Tab) (p : Lie) (X : Array Value) (hX : (tabCells t p).toArray = X) (s : Int) (b : UInt8) (w : World) (h : TabAt w t p) :
    Calls Try.prog 12 #[.agg X, .int .i64 s, .int .u8 (b.toNat : Int)] w fun e w' => e = .returned (.int .i64 (stepP t s b)) ∧ Below w.heap.size w w' := by
  have h0 := TiW.start h
  rw [hX] at h0
  have HW0 := Lib.hid h0
  obtain ⟨C, hC⟩ : ∃ C, (clCells t.of t.many).toArray = C := ⟨_, rfl⟩
  have HRD : Hid (∀ W, TiW w W t p → TabRead W w.heap.size t p X C) := fun W hW => by
    have := hW.tab.read
    rw [hX, hC] at this
    exact this
  have HRT : Hid (∀ W, TiW w W t p → Calls Try.prog 10 #[.agg X] W fun e w' => e = .returned (.bool (tabRightB t)) ∧ Below W.heap.size W w') := fun W hW => rTabRight_any t p X hX W hW.tab.at_
  have hld := (HRD.out _ h0).all
  have HR : Hid (stepP t s b = if s < 0 ∨ (t.tags.length : Int) ≤ s ∨ tabRightB t = false then -1 else t.next.getD (s.toNat * t.dmany.toNat + classZ t b) 0) := show _ = _ from rfl
  have htl := h.tags.len
  have hnl := h.next.len
  unfold maxLen at htl hnl
  have HO := Lib.hid h.of
  clear h h0 hX hC
  generalize stepP t s b = R at *
  cases hr : tabRightB t with
  | false =>
    rw [hr] at HRT HR
    have HR2 : Hid (R = -1) := by show _ = _; rw [HR.out, if_pos (.inr (.inr rfl))]
    clear HR
    go_enter Try.func12, Try.ntmps12
    go_wp2_with (go_at_call 10; refine (HRT.out _ HW0.out).mono ?_; rintro e w1 ⟨rfl, hb1⟩; have HW1 := Lib.hid (HW0.out.later hb1); clear hb1)
    go_ret
    exact ⟨ret_int HR2.out.symm, HW1.out.low⟩
  | true =>
    have HRI := Lib.hid ((rightT_iff t).1 hr)
    rw [hr] at HRT HR
    clear hr
    by_cases h0 : s < 0
    · have HR2 : Hid (R = -1) := by show _ = _; rw [HR.out, if_pos (.inl h0)]
      clear HR
      go_enter Try.func12, Try.ntmps12
      go_wp2_with (go_at_call 10; refine (HRT.out _ HW0.out).mono ?_; rintro e w1 ⟨rfl, hb1⟩; have HW1 := Lib.hid (HW0.out.later hb1); clear hb1)
      go_ret
      exact ⟨ret_int HR2.out.symm, HW1.out.low⟩
    by_cases hge : (t.tags.length : Int) ≤ s
    · have HR2 : Hid (R = -1) := by show _ = _; rw [HR.out, if_pos (.inr (.inl hge))]
      clear HR
      go_enter Try.func12, Try.ntmps12
      go_wp2_with (go_at_call 10; refine (HRT.out _ HW0.out).mono ?_; rintro e w1 ⟨rfl, hb1⟩; have HW1 := Lib.hid (HW0.out.later hb1); have q4 := (HRD.out _ HW1.out).tags; clear hb1)
      go_ret
      exact ⟨ret_int HR2.out.symm, HW1.out.low⟩
    have HR2 : Hid (R = t.next.getD (s.toNat * t.dmany.toNat + classZ t b) 0) := by
      show _ = _
      rw [HR.out, if_neg (by rintro (h | h | h) <;> first | omega | cases h)]
    clear HR
    obtain ⟨n, rfl⟩ : ∃ n : Nat, s = n := ⟨s.toNat, by omega⟩
    obtain ⟨hbl, hbe⟩ := class_at HO.out b
    have hin := step_in HRI.out HO.out n (by omega) b
    have hd0 := HRI.out.lo
    have hd1 := HRI.out.hi
    have hn5 := HRI.out.thi
    have hqq : (n : Int) * t.dmany = ((n * t.dmany.toNat : Nat) : Int) := by rw [Int.natCast_mul, Int.toNat_of_nonneg (by omega)]
    have HR3 : Hid (R = t.next[n * t.dmany.toNat + classZ t b]) := by
      show _ = _
      rw [HR2.out, Int.toNat_natCast, List.getD_eq_getElem?_getD, List.getElem?_eq_getElem hin]
      rfl
    have hcl : classZ t b ≤ 255 := by have := (t.of.getD b.toNat 0).toNat_lt; unfold classZ; omega
    have hbb := b.toNat_lt
    have hnt : n < t.tags.length := by omega
    have hql : n * t.dmany.toNat ≤ 5000 * 256 := Nat.mul_le_mul (by omega) (by omega)
    have HCB : Hid (∀ W, TiW w W t p → W.cell? ⟨w.heap.size, b.toNat, none⟩ = some (.int .u8 (classZ t b : Nat))) := fun W hW => by
      have := hW.tab.byte b.toNat hbl
      rw [hbe] at this
      exact this
    have HNX : Hid (∀ W, TiW w W t p → ∃ nb no, p.an = some ⟨nb, no, none⟩ ∧ W.cell? ⟨nb, no + (n * t.dmany.toNat + classZ t b), none⟩ = some (.int .i64 t.next[n * t.dmany.toNat + classZ t b])) := fun W hW => hW.tab.at_.next.at_ hin
    generalize t.next[n * t.dmany.toNat + classZ t b] = z at *
    generalize hqe : n * t.dmany.toNat = q at *
    generalize classZ t b = c at *
    clear hqe HR2 HO hbe
    have f1 : IntKind.i64.wrap ((n : Int) * t.dmany) = (q : Int) := by rw [hqq]; exact IntWalk.i64_in _ (by omega)
    have f2 : IntKind.i64.wrap ((q : Int) + (c : Int)) = (q : Int) + (c : Int) := IntWalk.i64_in _ (by omega)
    have f3 : IntKind.i64.wrap (c : Int) = (c : Int) := IntWalk.i64_in _ (by omega)
    have f4 : (0 : Int) ≤ (q : Int) + (c : Int) := by omega
    have f5 : (q : Int) + (c : Int) < (t.next.length : Int) := by omega
    have f6 : (b.toNat : Int) < 256 := by omega
    have f7 : (0 : Int) ≤ (b.toNat : Int) := by omega
    have f8 : ((q : Int) + (c : Int)).toNat = q + c := by omega
    clear hqq
    generalize b.toNat = bn at *
    go_enter Try.func12, Try.ntmps12
    go_wp2_with (go_at_call 10; refine (HRT.out _ HW0.out).mono ?_; rintro e w1 ⟨rfl, hb1⟩; have HW1 := Lib.hid (HW0.out.later hb1); have q2 := (HRD.out _ HW1.out).dmany; have q3 := (HRD.out _ HW1.out).next; have q4 := (HRD.out _ HW1.out).tags; have q5 := HCB.out _ HW1.out; obtain ⟨nb, no, hna, q6⟩ := HNX.out _ HW1.out; rw [hna] at q3; clear hb1)
    go_ret
    exact ⟨ret_int HR3.out.symm, HW1.out.low⟩
end Go.Proofs.Ytkgfjapflpjdbaa
