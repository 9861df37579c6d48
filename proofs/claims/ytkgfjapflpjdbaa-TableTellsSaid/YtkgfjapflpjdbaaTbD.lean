/-
  The contract of dfa.Right. Conditions: the lists lie in memory.
-/
import Derived.Test.YtkgfjapflpjdbaaTbC
namespace Go.Proofs.Ytkgfjapflpjdbaa
open Go.RowKit

def dfRightB (dmany : Int) (next tags : List Int) : Bool := withinB dmany 1 256 && (withinB tags.length 1 5000 && (((next.length : Int) == tags.length * dmany) && (allB (withinB · (-1) 199) tags && allB (withinB · (-1) (tags.length - 1)) next)))
def dfCells (dmany : Int) (an : Option Addr) (ln cn : Nat) (at_ : Option Addr) (lt ct : Nat) : List Value := [intV dmany, .slice an ln cn, .slice at_ lt ct]
theorem withinB_iff (z lo hi : Int) : withinB z lo hi = true ↔ lo ≤ z ∧ z ≤ hi := by simp [withinB]
set_option maxRecDepth 100000 in
set_option maxHeartbeats 1000000 in
theorem dfRight_any (dmany : Int) (next tags : List Int) (an at_ : Option Addr) (cn ct : Nat) (w : World) (hn : IntsAt w an next) (ht : IntsAt w at_ tags) :
    Calls Try.prog 20 #[.agg #[.int .i64 dmany, .slice an next.length cn, .slice at_ tags.length ct]] w fun e w' => e = .returned (.bool (dfRightB dmany next tags)) ∧ Below w.heap.size w w' := by
  have hb : Below w.heap.size w (w.alloc (.cells #[.int .i64 dmany, .slice an next.length cn, .slice at_ tags.length ct] 27)) := (Below.refl _ _).alloc (Nat.le_refl _) _
  have HB := Lib.hid hb
  have HN : Hid (IntsAt (w.alloc (.cells #[.int .i64 dmany, .slice an next.length cn, .slice at_ tags.length ct] 27)) an next) := RowAt.below hn hb
  have HT : Hid (IntsAt (w.alloc (.cells #[.int .i64 dmany, .slice an next.length cn, .slice at_ tags.length ct] 27)) at_ tags) := RowAt.below ht hb
  have hl1 := hn.len
  have hl2 := ht.len
  unfold maxLen at hl1 hl2
  clear hn ht hb
  have HR : Hid (dfRightB dmany next tags = (withinB dmany 1 256 && (withinB tags.length 1 5000 && (((next.length : Int) == tags.length * dmany) && (allB (withinB · (-1) 199) tags && allB (withinB · (-1) (tags.length - 1)) next))))) := show _ = _ from rfl
  generalize dfRightB dmany next tags = R at *
  cases h1 : withinB dmany 1 256 with
  | false =>
    have HR2 : Hid (R = false) := by show _ = _; rw [HR.out, h1]; rfl
    go_enter Try.func20, Try.ntmps20
    go_wp2_with (go_at_call 32; refine (within_any _ _ _ _).mono ?_; rintro e w' ⟨rfl, rfl⟩)
    go_ret
    exact ⟨ret_bool HR2.out.symm, HB.out⟩
  | true =>
    obtain ⟨b1, b2⟩ := (withinB_iff _ _ _).1 h1
    cases h2 : withinB (tags.length : Int) 1 5000 with
    | false =>
      have HR2 : Hid (R = false) := by show _ = _; rw [HR.out, h1, h2]; rfl
      go_enter Try.func20, Try.ntmps20
      go_wp2_with (go_at_call 32; refine (within_any _ _ _ _).mono ?_; rintro e w' ⟨rfl, rfl⟩)
      go_ret
      exact ⟨ret_bool HR2.out.symm, HB.out⟩
    | true =>
      obtain ⟨b3, b4⟩ := (withinB_iff _ _ _).1 h2
      obtain ⟨p, hp⟩ : ∃ p, (tags.length : Int) * dmany = p := ⟨_, rfl⟩
      have hp0 : 0 ≤ p := by rw [← hp]; exact Int.mul_nonneg (by omega) (by omega)
      have hp1 : p ≤ 1280000 := by rw [← hp]; exact Int.le_trans (Int.mul_le_mul b4 b2 (by omega) (by omega)) (by decide)
      have HR3 : Hid (R = (((next.length : Int) == p) && (allB (withinB · (-1) 199) tags && allB (withinB · (-1) (tags.length - 1)) next))) := by show _ = _; rw [HR.out, h1, h2, hp]; rfl
      clear HR
      cases h3 : ((next.length : Int) == p) with
      | false =>
        have HR2 : Hid (R = false) := by show _ = _; rw [HR3.out, h3]; rfl
        go_enter Try.func20, Try.ntmps20
        go_wp2_with (go_at_call 32; refine (within_any _ _ _ _).mono ?_; rintro e w' ⟨rfl, rfl⟩)
        go_ret
        exact ⟨ret_bool HR2.out.symm, HB.out⟩
      | true =>
        cases h4 : allB (withinB · (-1) 199) tags with
        | false =>
          have HR2 : Hid (R = false) := by show _ = _; rw [HR3.out, h3, h4]; rfl
          go_enter Try.func20, Try.ntmps20
          go_wp2_with (first | (go_at_call 32; refine (within_any _ _ _ _).mono ?_; rintro e w' ⟨rfl, rfl⟩) | (go_at_call 33; refine (allWithin_any _ tags _ _ _ _ HT.out).mono ?_; rintro e w' ⟨rfl, rfl⟩))
          go_ret
          exact ⟨ret_bool HR2.out.symm, HB.out⟩
        | true =>
          have HR2 : Hid (R = allB (withinB · (-1) (tags.length - 1)) next) := by show _ = _; rw [HR3.out, h3, h4]; rfl
          go_enter Try.func20, Try.ntmps20
          go_wp2_with (first | (go_at_call 32; refine (within_any _ _ _ _).mono ?_; rintro e w' ⟨rfl, rfl⟩) | (go_at_call 33; (first | with_reducible refine (allWithin_any _ tags _ _ _ _ HT.out).mono ?_ | with_reducible refine (allWithin_any _ next _ _ _ _ HN.out).mono ?_); rintro e w' ⟨rfl, rfl⟩))
          go_ret
          exact ⟨ret_bool HR2.out.symm, HB.out⟩
end Go.Proofs.Ytkgfjapflpjdbaa
