/-
  LexValues answers true for all bytes, however many: its walk, whole. Conditions: the bytes lie in memory; the library's tables lie as their texts lay them.
-/
import Derived.Test.YtciabhboiomehaaDoorVaW
import Derived.OpenShut
namespace Go.Proofs.YtciabhboiomehaaDoor
open Go.RowKit
open Go.ChangeShapes Go.WideShapes

theorem va_cell_lt {w : World} {b off : Nat} {v : Value} (h : w.cell? ⟨b, off, none⟩ = some v) : b < w.heap.size := by
  rcases Nat.lt_or_ge b w.heap.size with hlt | hge
  · exact hlt
  · simp [World.cell?, Array.getElem?_eq_none hge] at h
/-- a list of bytes that came in -/
def VaIn (w : World) (a : Option Addr) (len cap : Nat) (zs : List Int) : Prop :=
  (a = none ∧ len = 0 ∧ cap = 0 ∧ zs = []) ∨
  ∃ x, a = some x ∧ len ≤ cap ∧ cap ≤ maxLen ∧ zs.length = cap ∧ (∀ i, i < zs.length → w.cell? (x.add i) = some (.int .u8 (zs.getD i 0))) ∧ ∀ n ∈ zs, (Lit.int .u8 n).wf = true
theorem va_bytes_in {w : World} {a : Option Addr} {len cap : Nat} {zs : List Int} (h : VaIn w a len cap zs) (h0 : 0 < len) : ∃ g off x r, a = some ⟨g, off, none⟩ ∧ len ≤ cap ∧ len = r.length + 1 ∧ VaRow w g off (x :: r) := by
  rcases h with ⟨rfl, rfl, rfl, rfl⟩ | ⟨x, rfl, hl, hm, hz, hc, hw⟩
  · omega
  · have hlen : ((zs.take len).map fun z => UInt8.ofNat z.toNat).length = len := by rw [List.length_map, List.length_take]; omega
    obtain ⟨b, off, rfl, hc2⟩ := ints_at hc (by omega)
    have hrow : VaRow w b off ((zs.take len).map fun z => UInt8.ofNat z.toNat) := by
      refine ⟨va_cell_lt (hc2 0 (by omega)), fun j hj => ?_⟩
      rw [hlen] at hj
      have hjz : j < zs.length := by omega
      have hb := bounds_u8 (hw zs[j] (List.getElem_mem hjz))
      rw [hc2 j (by omega), List.getElem_map, List.getElem_take, List.getD_eq_getElem?_getD, List.getElem?_eq_getElem hjz]
      simp only [Option.getD_some, UInt8.toNat_ofNat']
      congr 2
      omega
    cases hl2 : (zs.take len).map fun z => UInt8.ofNat z.toNat with
    | nil => rw [hl2] at hlen; simp at hlen; omega
    | cons x r =>
      rw [hl2] at hrow hlen
      exact ⟨b, off, x, r, rfl, hl, by simpa using hlen.symm, hrow⟩
set_option maxHeartbeats 2000000 in
theorem LexValues_any (a : Option Addr) (len cap : Nat) (zs : List Int) (great : Bool) (w : World) (h : VaIn w a len cap zs) (ht : VaTab w) :
    Calls Tryd.prog 3 #[.slice a len cap, .bool great] w fun e w' => e = .returned (.bool true) ∧ Below w.heap.size w w' := by
  rcases Nat.eq_zero_or_pos len with h0 | h0
  · subst h0
    clear h ht
    go_enter Tryd.func3, Tryd.ntmps3
    go_wp2_with (go_at_call 4; refine (awake_any _).mono ?_; rintro e w' ⟨rfl, hb⟩)
    go_ret
    exact ⟨rfl, hb⟩
  · rcases Nat.lt_or_ge 20 len with h20 | h20
    · have h1 : (20 : Int) < len := by omega
      have h2 : ((len : Int) == 0) = false := by rw [beq_eq_false_iff_ne]; omega
      clear h ht h0 h20
      go_enter Tryd.func3, Tryd.ntmps3
      go_wp2_with (go_at_call 4; refine (awake_any _).mono ?_; rintro e w' ⟨rfl, hb⟩)
      go_ret
      exact ⟨rfl, hb⟩
    · obtain ⟨g, off, x, r, rfl, hc, rfl, hrow⟩ := va_bytes_in h h0
      exact LexValues_main g off cap x r great w hrow (by omega) hc ht
end Go.Proofs.YtciabhboiomehaaDoor
