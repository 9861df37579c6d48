/-
  The contract of frankinglow's Alike where the two lists are the same but for places: it answers true. Conditions: the lists as they lie in memory, of at most 200000 tokens.
-/
import Derived.Test.YtciabhboiomehaaDoorLow
namespace Go.Proofs.YtciabhboiomehaaDoor
open Go.RowKit

def bare (t : Tk) : Tk := { t with place := 0 }

set_option maxHeartbeats 4000000 in
theorem Alike_same (a b : Value) (xs ys : List Tk) (w : World) (hn : xs.length ≤ 200000) (he : xs.map bare = ys.map bare) (ha : TokRow w a xs) (hb : TokRow w b ys) :
    Calls Tryd.prog 10 #[a, b] w fun e w' => e = .returned (.bool true) ∧ Below w.heap.size w w' := by
  obtain ⟨A, c, rfl⟩ := ha.len
  obtain ⟨B, d, rfl⟩ := hb.len
  have hle : xs.length = ys.length := by
    have := congrArg List.length he
    simpa using this
  rw [← hle] at hb ⊢
  have HE := Lib.hid he
  have HLY := Lib.hid hle
  have HA := Lib.hid ha
  have HB := Lib.hid hb
  clear ha hb he hle
  generalize hlen : xs.length = n at *
  have HL := Lib.hid hlen
  clear hlen
  go_enter Tryd.func10, Tryd.ntmps10
  go_wp2
  go_loopw [15] (fun i wr => ∃ k : Nat, k ≤ n ∧ i = .int .i64 k ∧ Below w.heap.size w wr) (fun i _ => n - (intOf i).toNat)
  case atStart => exact ⟨0, Nat.zero_le _, rfl, Below.refl _ _⟩
  case round =>
    obtain ⟨k, hk, rfl, hbel⟩ := hrel
    by_cases hlt : k < n
    · obtain ⟨x, hx⟩ : ∃ x, xs[k]? = some x := ⟨_, List.getElem?_eq_getElem (by rw [HL.out]; exact hlt)⟩
      obtain ⟨y, hy⟩ : ∃ y, ys[k]? = some y := ⟨_, List.getElem?_eq_getElem (by rw [← HLY.out]; exact hlt)⟩
      have hxy : bare x = bare y := by
        have := congrArg (·[k]?) HE.out
        simp only [List.getElem?_map, hx, hy, Option.map_some] at this
        exact Option.some.inj this
      obtain ⟨x0, x1, x2, x3, x4, x5, x6⟩ := x
      obtain ⟨y0, y1, y2, y3, y4, y5, y6⟩ := y
      simp only [bare, Tk.mk.injEq] at hxy
      obtain ⟨rfl, _, rfl, rfl, rfl, rfl, rfl⟩ := hxy
      obtain ⟨g, off, rfl, hg, a0, a1, a2, a3, a4, a5, a6⟩ := (HA.out.below hbel).at_ hx
      obtain ⟨g', off', rfl, hg', b0, b1, b2, b3, b4, b5, b6⟩ := (HB.out.below hbel).at_ hy
      have hlt' : (k : Int) < n := by omega
      have h0' : (0 : Int) ≤ k := by omega
      clear hx hy
      go_wp2
      go_region
      all_goals
        go_wp2
        go_roundw
        case rel => exact ⟨k + 1, by omega, by go_num, ((hbel.alloc hbel.size _).alloc (by have := hbel.size; simp; omega) _).drew⟩
        case measure => simp [intOf]; omega
    · go_wp2
      go_ret
      exact ⟨rfl, hbel⟩
end Go.Proofs.YtciabhboiomehaaDoor
