/-
  LexTells, walked: it answers true for every text, and changes nothing that was there. No conditions.
-/
import Derived.Test.YtkidhffloaonaaaRefL
import Derived.Test.YtkidhffloaonaaaAwake
namespace Go.Proofs.Ytkidhffloaonaaa
open Go.RowKit

theorem drewN_below (w : World) (m : Nat) : Below w.heap.size w (w.drewN m) := below_drewN (Below.refl _ _) m

set_option maxHeartbeats 2000000 in
theorem LexTells_any (s : ByteArray) (w : World) (hs : s.size ≤ maxLen) :
    Calls Try.prog 3 #[.string s] w fun e w' => e = .returned (.bool true) ∧ Below w.heap.size w w' := by
  unfold maxLen at hs
  by_cases hlong : 4000 < s.size
  · go_enter Try.func3, Try.ntmps3
    go_wp2_with (go_at_call 8; refine (awake_any _).mono ?_; rintro e w' ⟨rfl, hb⟩)
    go_ret
    exact ⟨rfl, hb⟩
  · have hs' : s.size ≤ 4000 := by omega
    have hn := lexP_len s.data.toList
    rw [listLen] at hn
    have HL := Lib.hid (fun W => Lex_any s W)
    have HR := Lib.hid (fun W => refLex_any s W)
    generalize lexP s.data.toList = R at *
    clear hlong hs
    go_enter Try.func3, Try.ntmps3
    go_wp2_with (first | (go_at_call 9; refine (HL.out _).mono ?_; rintro e w1 ⟨va, rfl, oa, ba⟩) | (go_at_call 10; refine (HR.out _).mono ?_; rintro e w2 ⟨vb, rfl, ob, bb⟩) | (go_at_call 11; refine (Toks_same _ _ R.1 _ (by omega) ((TokRow.of_own oa).below bb) (TokRow.of_own ob)).mono ?_; rintro e w3 ⟨rfl, m3, rfl⟩) | (go_at_call 8; refine (awake_any _).mono ?_; rintro e w' ⟨rfl, hb⟩))
    go_ret
    exact ⟨rfl, (ba.trans (bb.mono ba.size)).trans (((drewN_below _ _).trans hb).mono (by have := ba.size; have := bb.size; omega))⟩
end Go.Proofs.Ytkidhffloaonaaa
