/-
  LexFolds, walked whole: also where the remark is too long, or has an end of a line. No conditions.
-/
import Derived.Test.YtkidhffloaonaaaFolds
import Derived.OpenShut
namespace Go.Proofs.Ytkidhffloaonaaa
open Go.RowKit

theorem cell_lt {w : World} {b off : Nat} {v : Value} (h : w.cell? ⟨b, off, none⟩ = some v) : b < w.heap.size := by
  rcases Nat.lt_or_ge b w.heap.size with hlt | hge
  · exact hlt
  · simp [World.cell?, Array.getElem?_eq_none hge] at h
/-- a slice of bytes that came in, as the frame tells it -/
theorem U8Row.of_row {w : World} {a : Option Addr} {len cap : Nat} {zs : List Int} (h : (a = none ∧ len = 0 ∧ cap = 0 ∧ zs = []) ∨
    ∃ x, a = some x ∧ len ≤ cap ∧ cap ≤ maxLen ∧ zs.length = cap ∧ (∀ i, i < zs.length → w.cell? (x.add i) = some (.int .u8 (zs.getD i 0))) ∧ ∀ n ∈ zs, (Lit.int .u8 n).wf = true) :
    U8Row w (.slice a len cap) a cap (zs.take len) ∧ (zs.take len).length = len := by
  rcases h with ⟨rfl, rfl, rfl, rfl⟩ | ⟨x, rfl, hl, hm, hz, hc, hw⟩
  · exact ⟨⟨rfl, Nat.le_refl _, by unfold maxLen; omega, fun k hk => absurd hk (by simp), fun z hz => absurd hz (by simp)⟩, rfl⟩
  · have hlen : (zs.take len).length = len := by rw [List.length_take]; omega
    refine ⟨⟨by rw [hlen], by rw [hlen]; exact hl, hm, fun k hk => ?_, fun z hz => bounds_u8 (hw z (List.mem_of_mem_take hz))⟩, hlen⟩
    obtain ⟨b, off, rfl, hc2⟩ := ints_at hc (by rw [hlen] at hk; omega)
    refine ⟨b, off, rfl, ?_, fun j hj => ?_⟩
    · exact cell_lt (hc2 0 (by rw [hlen] at hk; omega))
    · rw [hc2 j (by rw [hlen] at hj; omega), List.getD_eq_getElem?_getD, List.getElem?_eq_getElem (by rw [hlen] at hj; omega)]
      simp
set_option maxHeartbeats 2000000 in
theorem LexFolds_any (vl vg : Value) (Al Ag : Option Addr) (cl cg : Nat) (zl zg : List Int) (m : ByteArray) (w : World) (hl : U8Row w vl Al cl zl) (hg : U8Row w vg Ag cg zg) (hm : m.size ≤ maxLen) :
    Calls Try.prog 5 #[vl, vg, .string m] w fun e w' => e = .returned (.bool true) ∧ Below w.heap.size w w' := by
  by_cases h40 : m.size ≤ 40
  · by_cases hno : Lib.indexByte m.data.toList 10 < 0
    · exact LexFolds_main vl vg Al Ag cl cg zl zg m w hl hg h40 hno
    · have hdec : decide (0 ≤ Lib.indexByte m.data.toList 10) = true := by simpa using hno
      have HCO : Hid (∀ W, Calls Try.prog 14 #[.string m, .string ⟨#[10]⟩] W fun e w' => e = .returned (.bool true) ∧ W = w') := by
        show ∀ W, _
        intro W
        refine (Try.strings_Contains_one m 10 W).mono ?_
        rintro e w' ⟨rfl, h⟩
        exact ⟨ret_bool hdec, h.symm⟩
      have h40' : ¬ 40 < (m.size : Int) := by omega
      clear hl hg hdec hno
      go_enter Try.func5, Try.ntmps5
      go_wp2_with (first | (go_at_call 14; refine (HCO.out _).mono ?_; rintro e w' ⟨rfl, rfl⟩) | (go_at_call 8; refine (awake_any _).mono ?_; rintro e w' ⟨rfl, hb⟩))
      go_ret
      exact ⟨rfl, hb⟩
  · unfold maxLen at hm
    have h40' : 40 < (m.size : Int) := by omega
    clear hl hg
    go_enter Try.func5, Try.ntmps5
    go_wp2_with (go_at_call 8; refine (awake_any _).mono ?_; rintro e w' ⟨rfl, hb⟩)
    go_ret
    exact ⟨rfl, hb⟩
end Go.Proofs.Ytkidhffloaonaaa
