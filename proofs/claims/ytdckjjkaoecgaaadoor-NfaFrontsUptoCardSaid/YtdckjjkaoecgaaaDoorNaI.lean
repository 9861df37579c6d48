/-
  The contract of frankinglaw05.Ints. Conditions: the rows lie in memory.
-/
import Derived.Test.YtdckjjkaoecgaaaDoorGa
import Derived.DeepKeys
import Derived.BigQuiet
namespace Go.Proofs.YtdckjjkaoecgaaaDoor
open Go.RowKit

theorem below_drewNi {B : Nat} {a w : World} (h : Below B a w) : ∀ n, Below B a (w.drewN n)
  | 0 => h
  | n + 1 => (below_drewNi h n).drew
theorem take_next {α : Type} {l1 l2 : List α} {k : Nat} (h : l1.take k = l2.take k) (h1 : k < l1.length) (h2 : k < l2.length) (e : l1[k] = l2[k]) : l1.take (k + 1) = l2.take (k + 1) := by
  rw [List.take_succ_eq_append_getElem h1, List.take_succ_eq_append_getElem h2, h, e]
theorem take_done {α : Type} {l1 l2 : List α} {k : Nat} (h : l1.take k = l2.take k) (h1 : l1.length ≤ k) (h2 : l2.length ≤ k) : l1 = l2 := by
  rw [List.take_of_length_le h1, List.take_of_length_le h2] at h
  exact h
set_option maxHeartbeats 1000000 in
theorem ints_same (a1 a2 : Option Addr) (l1 l2 : List Int) (c1 c2 : Nat) (w : World) (r : Bool) (hr : r = true ↔ l1 = l2) (h1 : IntsAt w a1 l1) (h2 : IntsAt w a2 l2) :
    Calls Tryd.prog 19 #[.slice a1 l1.length c1, .slice a2 l2.length c2] w fun e w' => e = .returned (.bool r) ∧ Below w.heap.size w w' := by
  have H1 := Lib.hid h1
  have H2 := Lib.hid h2
  have HR := Lib.hid hr
  have HB : Hid (Below w.heap.size w w) := Below.refl _ _
  have hl := h1.len
  have hl2 := h2.len
  unfold maxLen at hl hl2
  clear h1 h2 hr
  obtain ⟨n1, hn1⟩ : ∃ n, l1.length = n := ⟨_, rfl⟩
  obtain ⟨n2, hn2⟩ : ∃ n, l2.length = n := ⟨_, rfl⟩
  rw [hn1] at hl
  rw [hn2] at hl2
  rw [hn1, hn2]
  have HN1 := Lib.hid hn1
  have HN2 := Lib.hid hn2
  clear hn1 hn2
  by_cases hn : n1 = n2
  · subst hn
    go_enter Tryd.func19, Tryd.ntmps19
    go_wp2
    go_loopw [13] (fun i wr => ∃ k : Nat, k ≤ n1 ∧ i = .int .i64 k ∧ Hid (l1.take k = l2.take k) ∧ Hid (Below w.heap.size w wr)) (fun i _ => n1 - (intOf i).toNat)
    case atStart => exact ⟨0, Nat.zero_le _, rfl, (by show _ = _; rfl), HB⟩
    case round =>
      obtain ⟨k, hk, rfl, HK, HBR⟩ := hrel
      by_cases hlt : k < n1
      · have hk1 : k < l1.length := by rw [HN1.out]; exact hlt
        have hk2 : k < l2.length := by rw [HN2.out]; exact hlt
        obtain ⟨b1, o1, hb1, e1⟩ := (show IntsAt wr a1 l1 from RowAt.below H1.out HBR.out).at_ hk1
        obtain ⟨b2, o2, hb2, e2⟩ := (show IntsAt wr a2 l2 from RowAt.below H2.out HBR.out).at_ hk2
        rw [hb1, hb2]
        have hk0 : (0 : Int) ≤ k := by omega
        have hlt' : (k : Int) < n1 := by omega
        have HS : Hid (l1[k] = l2[k] → l1.take (k + 1) = l2.take (k + 1)) := fun e => take_next HK.out hk1 hk2 e
        have HF : Hid (l1[k] ≠ l2[k] → r = false) := fun e => by
          rw [← Bool.not_eq_true, HR.out]
          intro hh
          exact e (by simp only [hh])
        clear HK
        generalize l1[k] = z1 at *
        generalize l2[k] = z2 at *
        clear hk1 hk2
        by_cases hz : z1 = z2
        · subst hz
          have HS2 := Lib.hid (HS.out rfl)
          clear HF HS
          go_wp2
          go_quiet (fail)
          go_wp2
          go_roundw
          case rel => exact ⟨k + 1, by omega, by go_num, HS2, below_drewNi HBR.out nq⟩
          case measure => simp [intOf]; omega
        · have hr : r = false := HF.out hz
          clear HF HS
          have HR2 := Lib.hid hr
          clear hr
          have hz2 : (z1 == z2) = false := by simpa using hz
          go_wp2
          go_quiet (fail)
          go_wp2
          go_ret
          exact ⟨ret_bool HR2.out.symm, below_drewNi HBR.out nq⟩
      · have hlt' : ¬ (k : Int) < n1 := by omega
        have hr : r = true := HR.out.2 (take_done HK.out (by rw [HN1.out]; omega) (by rw [HN2.out]; omega))
        have HR2 := Lib.hid hr
        clear hr HK
        go_wp2
        go_ret
        exact ⟨ret_bool HR2.out.symm, HBR.out⟩
  · have hr : r = false := by
      rw [← Bool.not_eq_true, HR.out]
      intro hh
      exact hn (by rw [← HN1.out, ← HN2.out, hh])
    have HR2 := Lib.hid hr
    clear hr
    have hn2 : ((n1 : Int) == (n2 : Int)) = false := by simpa using (fun h => hn (by omega))
    go_enter Tryd.func19, Tryd.ntmps19
    go_wp2
    go_ret
    exact ⟨ret_bool HR2.out.symm, HB.out⟩
end Go.Proofs.YtdckjjkaoecgaaaDoor
