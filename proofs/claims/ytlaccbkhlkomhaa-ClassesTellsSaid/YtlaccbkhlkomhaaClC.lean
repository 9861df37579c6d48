/-
  The contracts of classes.Fits, slices.Index at bytes, classes.First. Conditions: 256 bytes, a set, a class's number.
-/
import Derived.Test.YtlaccbkhlkomhaaClP
namespace Go.Proofs.Ytlaccbkhlkomhaa
open Go.RowKit

noncomputable def LoadCl (v : Value) : Sem Value := Instr.loadAt 25 v
theorem loadCl_eq (v : Value) : Instr.loadAt 25 v = LoadCl v := rfl
theorem loadCl_run {of : List UInt8} {many : Int} {W : World} {B : Nat} (ho : of.length = 256) (h : Blk W B 25 (clCells of many).toArray) : (LoadCl (.pointer (some ⟨B, 0, none⟩))).run Try.prog W = .ok (.agg (clCells of many).toArray) W :=
  run_loadAt_mid W B 0 25 (clCells of many) _ (fun j v hv => by
    rw [Nat.zero_add, h.cell]
    simpa using hv) Try.underlying25 rfl (by rw [clCells_len _ _ ho]; kernel_rfl)
attribute [local go_sem ↓] loadCl_eq
set_option maxRecDepth 100000 in
set_option maxHeartbeats 4000000 in
theorem fits_any (of : List UInt8) (many : Int) (s : St) (w : World) (ho : of.length = 256) (hs : s.ok) :
    Calls Try.prog 16 #[.agg (clCells of many).toArray, setV s] w fun e w' => e = .returned (.bool (clRightB of many && !partsB of s)) ∧ Below w.heap.size w w' := by
  obtain ⟨cs, hcs⟩ : ∃ cs, cs = (clCells of many).toArray := ⟨_, rfl⟩
  have HRT : Hid (∀ w, Calls Try.prog 14 #[.agg cs] w fun e w' => e = .returned (.bool (clRightB of many)) ∧ Below w.heap.size w w') := fun w => by rw [hcs]; exact clRight_any of many w ho
  have HPA : Hid (∀ w, Calls Try.prog 27 #[.agg cs, setV s] w fun e w' => e = .returned (.bool (partsB of s)) ∧ Below w.heap.size w w') := fun w => by rw [hcs]; exact partsAny_any of many s w ho hs
  have HLD : Hid (∀ W B, Blk W B 25 cs → (LoadCl (.pointer (some ⟨B, 0, none⟩))).run Try.prog W = .ok (.agg cs) W) := fun W B hb => by rw [hcs] at hb ⊢; exact loadCl_run ho hb
  rw [← hcs]
  clear hcs
  generalize clRightB of many = A at *
  generalize partsB of s = B at *
  unfold setV at *
  unfold setC at *
  have HB0 : Hid (Blk ((w.alloc (.cells cs 25)).alloc (.cells #[.int .u64 (s.s0 : Int), .int .u64 (s.s1 : Int), .int .u64 (s.s2 : Int), .int .u64 (s.s3 : Int)] 28)) w.heap.size 25 cs) := (Blk.new _ _ _).alloc _
  have HS0 : Hid (Blk ((w.alloc (.cells cs 25)).alloc (.cells #[.int .u64 (s.s0 : Int), .int .u64 (s.s1 : Int), .int .u64 (s.s2 : Int), .int .u64 (s.s3 : Int)] 28)) (w.heap.size + 1) 28 #[.int .u64 (s.s0 : Int), .int .u64 (s.s1 : Int), .int .u64 (s.s2 : Int), .int .u64 (s.s3 : Int)]) := Blk.new_at _ _ _ _ (by simp)
  have HL0 : Hid (Below w.heap.size w ((w.alloc (.cells cs 25)).alloc (.cells #[.int .u64 (s.s0 : Int), .int .u64 (s.s1 : Int), .int .u64 (s.s2 : Int), .int .u64 (s.s3 : Int)] 28))) := ((Below.refl _ _).alloc (Nat.le_refl _) _).alloc (by simp) _
  have l0 := HLD.out _ _ HB0.out
  go_enter Try.func16, Try.ntmps16
  go_wp2_with (go_at_call 14; refine (HRT.out _).mono ?_)
  rintro e w5 ⟨rfl, hb5⟩
  have h5 := HS0.out.below hb5 HS0.out.lt
  have l5 := HLD.out _ _ (HB0.out.below hb5 HB0.out.lt)
  have HL5 : Hid (Below w.heap.size w w5) := low_trans HL0.out hb5
  have t0 := h5.cell 0
  have t1 := h5.cell 1
  have t2 := h5.cell 2
  have t3 := h5.cell 3
  simp at t0 t1 t2 t3
  clear l0 hb5 h5 HRT
  cases A with
  | false =>
    go_wp2
    go_ret
    exact ⟨rfl, HL5.out⟩
  | true =>
    go_wp2_with (go_at_call 27; refine (HPA.out _).mono ?_)
    rintro e w6 ⟨rfl, hb6⟩
    have HL6 : Hid (Below w.heap.size w w6) := low_trans HL5.out hb6
    clear hb6 HPA
    go_wp2
    go_ret
    exact ⟨rfl, HL6.out⟩
/-- where a byte stands first -/
def idxOf (c : Nat) (of : List UInt8) : Int := match of.findIdx? (fun x => x.toNat == c) with | none => -1 | some i => (i : Int)
theorem idxOf_at (c : Nat) (of : List UInt8) (k : Nat) (h : k < of.length) (he : (of[k]).toNat = c) (hn : ∀ x (hx : x < k), (of[x]'(by omega)).toNat ≠ c) : idxOf c of = (k : Int) := by
  unfold idxOf
  have : of.findIdx? (fun x => x.toNat == c) = some k := by
    rw [List.findIdx?_eq_some_iff_getElem]
    exact ⟨h, by simpa using he, fun j hj => by simpa using hn j hj⟩
  rw [this]
theorem idxOf_no (c : Nat) (of : List UInt8) (hn : ∀ x (hx : x < of.length), (of[x]).toNat ≠ c) : idxOf c of = -1 := by
  unfold idxOf
  have : of.findIdx? (fun x => x.toNat == c) = none := by
    rw [List.findIdx?_eq_none_iff]
    intro x hx
    obtain ⟨i, hi, rfl⟩ := List.getElem_of_mem hx
    simpa using hn i hi
  rw [this]
set_option maxRecDepth 100000 in
set_option maxHeartbeats 1000000 in
theorem index_any (b cap : Nat) (of : List UInt8) (c : Nat) (w : World) (ho : of.length = 256) (hc : c < 256) (hk : ∀ k (h : k < of.length), w.cell? ⟨b, k, none⟩ = some (.int .u8 (of[k].toNat : Int))) :
    Calls Try.prog 32 #[.slice (some ⟨b, 0, none⟩) 256 cap, .int .u8 (c : Int)] w fun e w' => e = .returned (.int .i64 (idxOf c of)) ∧ w = w' := by
  have HA := Lib.hid (idxOf_at c of)
  have HN := Lib.hid (idxOf_no c of)
  have HK := Lib.hid hk
  have HL := Lib.hid ho
  clear hk ho
  generalize idxOf c of = R at *
  go_enter Try.func32, Try.ntmps32
  go_wp2
  go_loop [5, 8] (fun _ i => ∃ j : Nat, j ≤ 256 ∧ i = .int .i64 j ∧ Hid (∀ x (hx : x < j) (h : x < of.length), (of[x]).toNat ≠ c)) (fun _ i => 256 - (intOf i).toNat)
  case atStart => exact ⟨0, Nat.zero_le _, rfl, fun x h => by omega⟩
  case round =>
    obtain ⟨j, hj, rfl, HJ⟩ := hrel
    by_cases hlt : j < 256
    · have hjo : j < of.length := by rw [HL.out]; exact hlt
      have hcell := HK.out j hjo
      have hlt' : (j : Int) < 256 := by omega
      have h0' : (0 : Int) ≤ j := by omega
      obtain ⟨y, hy⟩ : ∃ y, y = (of[j]).toNat := ⟨_, rfl⟩
      rw [← hy] at hcell
      by_cases heq : c = y
      · have HR : Hid (R = (j : Int)) := HA.out j hjo (by omega) (fun x hx => HJ.out x hx (by omega))
        subst heq
        clear hy
        go_wp2
        go_ret
        exact ⟨ret_int HR.out.symm, rfl⟩
      · have HJ' : Hid (∀ x (hx : x < j + 1) (h : x < of.length), (of[x]).toNat ≠ c) := fun x hx h => by
          by_cases hxj : x = j
          · subst hxj; omega
          · exact HJ.out x (by omega) h
        have hne : ((c : Int) == (y : Int)) = false := by rw [beq_eq_false_iff_ne]; omega
        have hne2 : ¬ ((c : Int) = (y : Int)) := by omega
        clear HJ hy
        go_wp2
        go_round
        case rel => exact ⟨j + 1, by omega, by go_num, HJ'⟩
        case measure => simp [intOf]; omega
    · have HR : Hid (R = -1) := HN.out (fun x hx => HJ.out x (by have := HL.out; omega) hx)
      go_wp2
      go_ret
      exact ⟨ret_int HR.out.symm, rfl⟩
end Go.Proofs.Ytlaccbkhlkomhaa
