/-
  The contract of frankinglow.Toks at rows of the same tokens. Conditions: the rows lie in memory; at most 200000 tokens.
-/
import Derived.Test.YtciabhboiomehaaDoorLow
namespace Go.Proofs.YtciabhboiomehaaDoor
open Go.RowKit

set_option maxHeartbeats 2000000 in
theorem Toks_same (a b : Value) (toks : List Tk) (w : World) (hn : toks.length ≤ 200000) (ha : TokRow w a toks) (hb : TokRow w b toks) :
    Calls Tryd.prog 9 #[a, b] w fun e w' => e = .returned (.bool true) ∧ ∃ m, w' = w.drewN m := by
  obtain ⟨A, c, rfl⟩ := ha.len
  obtain ⟨B, d, rfl⟩ := hb.len
  have HA := Lib.hid ha
  have HB := Lib.hid hb
  clear ha hb
  generalize hlen : toks.length = n at *
  have HL := Lib.hid hlen
  clear hlen
  go_enter Tryd.func9, Tryd.ntmps9
  go_wp2
  go_loopw [13] (fun i wr => ∃ k m : Nat, k ≤ n ∧ i = .int .i64 k ∧ wr = w.drewN m) (fun i _ => n - (intOf i).toNat)
  case atStart => exact ⟨0, 0, Nat.zero_le _, rfl, rfl⟩
  case round =>
    obtain ⟨k, m, hk, rfl, rfl⟩ := hrel
    by_cases hlt : k < n
    · obtain ⟨t, ht⟩ : ∃ t, toks[k]? = some t := ⟨_, List.getElem?_eq_getElem (by rw [HL.out]; exact hlt)⟩
      obtain ⟨g, off, rfl, _, a0, a1, a2, a3, a4, a5, a6⟩ := HA.out.at_ ht
      obtain ⟨g', off', rfl, _, b0, b1, b2, b3, b4, b5, b6⟩ := HB.out.at_ ht
      have hlt' : (k : Int) < n := by omega
      have h0' : (0 : Int) ≤ k := by omega
      go_wp2
      go_quiet (fail)
      go_wp2
      go_roundw
      case rel => exact ⟨k + 1, _, by omega, by go_num, rfl⟩
      case measure => simp [intOf]; omega
    · go_wp2
      go_ret
      exact ⟨rfl, _, rfl⟩

end Go.Proofs.YtciabhboiomehaaDoor
