/-
  The contract of frankingref08.Right. Conditions: the lists lie in memory.
-/
import Derived.Test.YtkgfjapflpjdbaaTrC
namespace Go.Proofs.Ytkgfjapflpjdbaa
open Go.RowKit

/-- the machine's own box -/
structure BxD (w W : World) (dmany : Int) (an : Option Addr) (nl cn : Nat) (at_ : Option Addr) (tl ct : Nat) : Prop where
  blk : Blk W w.heap.size 27 #[.int .i64 dmany, .slice an nl cn, .slice at_ tl ct]
  low : Below w.heap.size w W
theorem BxD.later {w W W2 : World} {dmany : Int} {an at_ : Option Addr} {nl cn tl ct : Nat} (h : BxD w W dmany an nl cn at_ tl ct) (hb : Below W.heap.size W W2) : BxD w W2 dmany an nl cn at_ tl ct :=
  ⟨h.blk.below hb h.blk.lt, h.low.trans (hb.mono h.low.size)⟩
theorem BxD.drewN {w W : World} {dmany : Int} {an at_ : Option Addr} {nl cn tl ct : Nat} (h : BxD w W dmany an nl cn at_ tl ct) (n : Nat) : BxD w (W.drewN n) dmany an nl cn at_ tl ct := h.later (below_drewN (Below.refl _ _) n)
theorem BxD.start (w : World) (dmany : Int) (an at_ : Option Addr) (nl cn tl ct : Nat) : BxD w (w.alloc (.cells #[.int .i64 dmany, .slice an nl cn, .slice at_ tl ct] 27)) dmany an nl cn at_ tl ct := ⟨Blk.new _ _ _, (Below.refl _ _).alloc (Nat.le_refl _) _⟩
theorem BxD.cells {w W : World} {dmany : Int} {an at_ : Option Addr} {nl cn tl ct : Nat} (h : BxD w W dmany an nl cn at_ tl ct) : W.cell? ⟨w.heap.size, 0, none⟩ = some (.int .i64 dmany) ∧ W.cell? ⟨w.heap.size, 1, none⟩ = some (.slice an nl cn) ∧ W.cell? ⟨w.heap.size, 2, none⟩ = some (.slice at_ tl ct) :=
  ⟨h.blk.cell 0, h.blk.cell 1, h.blk.cell 2⟩
set_option maxRecDepth 100000 in
set_option maxHeartbeats 2000000 in
theorem rDfRight_any (dmany : Int) (next tags : List Int) (an at_ : Option Addr) (cn ct : Nat) (w : World) (hn : IntsAt w an next) (ht : IntsAt w at_ tags) :
    Calls Try.prog 24 #[.agg #[.int .i64 dmany, .slice an next.length cn, .slice at_ tags.length ct]] w fun e w' => e = .returned (.bool (dfRightB dmany next tags)) ∧ Below w.heap.size w w' := by
  have hl1 := hn.len
  have hl2 := ht.len
  unfold maxLen at hl1 hl2
  have hRR : dfRightB dmany next tags = (withinB dmany 1 256 && (withinB tags.length 1 5000 && (((next.length : Int) == tags.length * dmany) && (allB (withinB · (-1) 199) tags && allB (withinB · (-1) (tags.length - 1)) next)))) := rfl
  obtain ⟨nl, hnl⟩ : ∃ n, next.length = n := ⟨_, rfl⟩
  obtain ⟨tl, htl⟩ : ∃ n, tags.length = n := ⟨_, rfl⟩
  rw [hnl] at hl1 hRR
  rw [htl] at hl2 hRR
  rw [hnl, htl]
  have HNL := Lib.hid hnl
  have HTL := Lib.hid htl
  have HR := Lib.hid hRR
  clear hnl htl hRR
  have HNX : Hid (∀ W, BxD w W dmany an nl cn at_ tl ct → IntsAt W an next) := fun W hW => RowAt.below hn hW.low
  have HTG : Hid (∀ W, BxD w W dmany an nl cn at_ tl ct → IntsAt W at_ tags) := fun W hW => RowAt.below ht hW.low
  have HBX := Lib.hid (BxD.start w dmany an at_ nl cn tl ct)
  have HCS : Hid (∀ W, BxD w W dmany an nl cn at_ tl ct → W.cell? ⟨w.heap.size, 0, none⟩ = some (.int .i64 dmany) ∧ W.cell? ⟨w.heap.size, 1, none⟩ = some (.slice an nl cn) ∧ W.cell? ⟨w.heap.size, 2, none⟩ = some (.slice at_ tl ct)) := fun W hW => hW.cells
  have HS1 := Lib.hid (fun k => @all_next (withinB · (-1) 199) tags k)
  have HN1 := Lib.hid (fun k => allB_no (withinB · (-1) 199) tags k)
  have HS2 := Lib.hid (fun k => @all_next (withinB · (-1) ((tl : Int) - 1)) next k)
  have HN2 := Lib.hid (fun k => allB_no (withinB · (-1) ((tl : Int) - 1)) next k)
  have HE1 : Hid (∀ k, tl ≤ k → tags.take k = tags) := fun k h => List.take_of_length_le (by rw [HTL.out]; exact h)
  have HE2 : Hid (∀ k, nl ≤ k → next.take k = next) := fun k h => List.take_of_length_le (by rw [HNL.out]; exact h)
  clear hn ht
  generalize dfRightB dmany next tags = R at *
  obtain ⟨hc0, hc1, hc2⟩ := HCS.out _ HBX.out
  by_cases b1 : dmany < 1
  · have HR2 : Hid (R = false) := by
      show _ = _
      rw [HR.out, show withinB dmany 1 256 = false from by unfold withinB; rw [decide_eq_false (p := (1 : Int) ≤ dmany) (by omega)]; rfl]
      rfl
    go_enter Try.func24, Try.ntmps24
    go_wp2
    go_ret
    exact ⟨ret_bool HR2.out.symm, HBX.out.low⟩
  by_cases b2 : 256 < dmany
  · have HR2 : Hid (R = false) := by
      show _ = _
      rw [HR.out, show withinB dmany 1 256 = false from by unfold withinB; rw [decide_eq_false (p := dmany ≤ 256) (by omega), Bool.and_false]]
      rfl
    go_enter Try.func24, Try.ntmps24
    go_wp2
    go_ret
    exact ⟨ret_bool HR2.out.symm, HBX.out.low⟩
  have hw1 : withinB dmany 1 256 = true := by unfold withinB; rw [decide_eq_true (p := (1 : Int) ≤ dmany) (by omega), decide_eq_true (p := dmany ≤ 256) (by omega)]; rfl
  by_cases b3 : tl < 1
  · have HR2 : Hid (R = false) := by
      show _ = _
      rw [HR.out, hw1, show withinB (tl : Int) 1 5000 = false from by unfold withinB; rw [decide_eq_false (p := (1 : Int) ≤ (tl : Int)) (by omega)]; rfl]
      rfl
    clear HR hw1 HNX HTG HCS HS1 HN1 HS2 HN2 HE1 HE2
    obtain rfl : tl = 0 := by omega
    go_enter Try.func24, Try.ntmps24
    go_wp2
    go_ret
    exact ⟨ret_bool HR2.out.symm, HBX.out.low⟩
  by_cases b4 : 5000 < tl
  · have HR2 : Hid (R = false) := by
      show _ = _
      rw [HR.out, hw1, show withinB (tl : Int) 1 5000 = false from by unfold withinB; rw [decide_eq_false (p := (tl : Int) ≤ 5000) (by omega), Bool.and_false]]
      rfl
    have b3' : ¬ (tl : Int) < 1 := by omega
    have b4' : (5000 : Int) < (tl : Int) := by omega
    clear HR hw1
    go_enter Try.func24, Try.ntmps24
    go_wp2
    go_ret
    exact ⟨ret_bool HR2.out.symm, HBX.out.low⟩
  have hw2 : withinB (tl : Int) 1 5000 = true := by unfold withinB; rw [decide_eq_true (p := (1 : Int) ≤ (tl : Int)) (by omega), decide_eq_true (p := (tl : Int) ≤ 5000) (by omega)]; rfl
  obtain ⟨p, hp⟩ : ∃ p, (tl : Int) * dmany = p := ⟨_, rfl⟩
  have hp0 : 0 ≤ p := by rw [← hp]; exact Int.mul_nonneg (by omega) (by omega)
  have hp1 : p ≤ 1280000 := by rw [← hp]; exact Int.le_trans (Int.mul_le_mul (by omega : (tl : Int) ≤ 5000) (by omega : dmany ≤ 256) (by omega) (by omega)) (by decide)
  have f1 : IntKind.i64.wrap (dmany * (tl : Int)) = p := by rw [Int.mul_comm, hp]; exact IntWalk.i64_in _ (by omega)
  have HR3 : Hid (R = (((nl : Int) == p) && (allB (withinB · (-1) 199) tags && allB (withinB · (-1) (tl - 1)) next))) := by show _ = _; rw [HR.out, hw1, hw2, hp]; rfl
  clear HR hp hw1 hw2
  have b3' : ¬ (tl : Int) < 1 := by omega
  have b4' : ¬ (5000 : Int) < (tl : Int) := by omega
  cases h3 : ((nl : Int) == p) with
  | false =>
    have HR2 : Hid (R = false) := by show _ = _; rw [HR3.out, h3]; rfl
    clear HR3
    go_enter Try.func24, Try.ntmps24
    go_wp2
    go_ret
    exact ⟨ret_bool HR2.out.symm, HBX.out.low⟩
  | true =>
    have HR4 : Hid (R = (allB (withinB · (-1) 199) tags && allB (withinB · (-1) (tl - 1)) next)) := by show _ = _; rw [HR3.out, h3]; rfl
    clear HR3
    go_enter Try.func24, Try.ntmps24
    go_wp2
    go_loop [3] (fun i => ∃ k : Nat, k ≤ tl ∧ i = .int .i64 k ∧ Hid (allB (withinB · (-1) 199) (tags.take k) = true)) (fun i => tl - (intOf i).toNat)
    case atStart => exact ⟨0, Nat.zero_le _, rfl, show _ = _ from rfl⟩
    case round =>
      obtain ⟨k, hk, rfl, HK⟩ := hrel
      by_cases hlt : k < tl
      · have hkt : k < tags.length := by rw [HTL.out]; exact hlt
        have hlt2 : (k : Int) < (tl : Int) := by omega
        obtain ⟨b, off, rfl, hc⟩ := (HTG.out _ HBX.out).at_ hkt
        have HST := Lib.hid (HS1.out k hkt HK.out)
        have HNO := Lib.hid (HN1.out k hkt)
        generalize tags[k] = z at *
        by_cases z1 : z < -1
        · have HR2 : Hid (R = false) := by
            show _ = _
            rw [HR4.out, HNO.out (by unfold withinB; rw [decide_eq_false (p := (-1 : Int) ≤ z) (by omega)]; rfl)]
            rfl
          go_wp2
          go_ret
          exact ⟨ret_bool HR2.out.symm, HBX.out.low⟩
        · by_cases z2 : 199 < z
          · have HR2 : Hid (R = false) := by
              show _ = _
              rw [HR4.out, HNO.out (by unfold withinB; rw [decide_eq_false (p := z ≤ 199) (by omega), Bool.and_false])]
              rfl
            go_wp2
            go_ret
            exact ⟨ret_bool HR2.out.symm, HBX.out.low⟩
          · have HG := Lib.hid (HST.out (by unfold withinB; rw [decide_eq_true (p := (-1 : Int) ≤ z) (by omega), decide_eq_true (p := z ≤ 199) (by omega)]; rfl))
            clear HST HNO HK
            go_wp2
            go_round
            case rel => exact ⟨k + 1, by omega, by go_num, HG⟩
            case measure => simp [intOf]; omega
      · have hkk : k = tl := by omega
        have HR5 : Hid (R = allB (withinB · (-1) (tl - 1)) next) := by
          have h1 := HK.out
          rw [HE1.out k (by omega)] at h1
          show _ = _
          rw [HR4.out, h1]
          rfl
        have hlt2 : ¬ (k : Int) < (tl : Int) := by omega
        clear hkk HK HR4
        go_wp2
        clear hc0 hc1 hc2
        go_loopw [4] (fun i wr => ∃ k : Nat, k ≤ nl ∧ i = .int .i64 k ∧ Hid (allB (withinB · (-1) (tl - 1)) (next.take k) = true) ∧ Hid (BxD w wr dmany an nl cn at_ tl ct)) (fun i _ => nl - (intOf i).toNat)
        case atStart => exact ⟨0, Nat.zero_le _, rfl, (by show _ = _; rfl), HBX⟩
        case round =>
          clear hlt2 hlt hk
          obtain ⟨q, hq, rfl, HK, HBR⟩ := hrel
          obtain ⟨hc0, hc1, hc2⟩ := HCS.out _ HBR.out
          by_cases hlt : q < nl
          · have hkt : q < next.length := by rw [HNL.out]; exact hlt
            have hlt2 : (q : Int) < (nl : Int) := by omega
            obtain ⟨b, off, rfl, hc⟩ := (HNX.out _ HBR.out).at_ hkt
            have HST := Lib.hid (HS2.out q hkt HK.out)
            have HNO := Lib.hid (HN2.out q hkt)
            generalize next[q] = z at *
            by_cases z1 : z < -1
            · have HR2 : Hid (R = false) := by
                show _ = _
                rw [HR5.out, HNO.out (by unfold withinB; rw [decide_eq_false (p := (-1 : Int) ≤ z) (by omega)]; rfl)]
              clear HST HNO HK
              go_wp2
              go_quiet (fail)
              go_wp2
              go_ret
              exact ⟨ret_bool HR2.out.symm, (HBR.out.drewN nq).low⟩
            · by_cases z2 : (tl : Int) ≤ z
              · have HR2 : Hid (R = false) := by
                  show _ = _
                  rw [HR5.out, HNO.out (by unfold withinB; rw [decide_eq_false (p := z ≤ (tl : Int) - 1) (by omega), Bool.and_false])]
                clear HST HNO HK
                go_wp2
                go_quiet (fail)
                go_wp2
                go_ret
                exact ⟨ret_bool HR2.out.symm, (HBR.out.drewN nq).low⟩
              · have HG := Lib.hid (HST.out (by unfold withinB; rw [decide_eq_true (p := (-1 : Int) ≤ z) (by omega), decide_eq_true (p := z ≤ (tl : Int) - 1) (by omega)]; rfl))
                clear HST HNO HK
                go_wp2
                go_quiet (fail)
                go_wp2
                go_roundw
                case rel => exact ⟨q + 1, by omega, by go_num, HG, HBR.out.drewN nq⟩
                case measure => simp [intOf]; omega
          · have HR2 : Hid (R = true) := by
              have h1 := HK.out
              rw [HE2.out q (by omega)] at h1
              show _ = _
              rw [HR5.out, h1]
            have hlt2 : ¬ (q : Int) < (nl : Int) := by omega
            go_wp2
            go_ret
            exact ⟨ret_bool HR2.out.symm, HBR.out.low⟩
end Go.Proofs.Ytkgfjapflpjdbaa
