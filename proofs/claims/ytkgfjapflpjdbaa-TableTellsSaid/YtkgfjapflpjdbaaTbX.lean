/-
  The contracts of frankinglaw05.Ints, frankinglaw03.Texts, frankinglaw08.Same, frankinglaw10.Same where both sides are the same. Conditions: the tables lie in memory; the classes compare as equal.
-/
import Derived.Test.YtkgfjapflpjdbaaTbW
namespace Go.Proofs.Ytkgfjapflpjdbaa
open Go.RowKit

set_option maxHeartbeats 1000000 in
theorem ints_refl (a1 a2 : Option Addr) (l : List Int) (c1 c2 : Nat) (w : World) (h1 : IntsAt w a1 l) (h2 : IntsAt w a2 l) :
    Calls Try.prog 42 #[.slice a1 l.length c1, .slice a2 l.length c2] w fun e w' => e = .returned (.bool true) ∧ Below w.heap.size w w' := by
  have H1 := Lib.hid h1
  have H2 := Lib.hid h2
  have HB : Hid (Below w.heap.size w w) := Below.refl _ _
  have hl := h1.len
  unfold maxLen at hl
  clear h1 h2
  go_enter Try.func42, Try.ntmps42
  go_wp2
  go_loopw [13] (fun i wr => ∃ k : Nat, k ≤ l.length ∧ i = .int .i64 k ∧ Hid (Below w.heap.size w wr)) (fun i _ => l.length - (intOf i).toNat)
  case atStart => exact ⟨0, Nat.zero_le _, rfl, HB⟩
  case round =>
    obtain ⟨k, hk, rfl, HBR⟩ := hrel
    by_cases hlt : k < l.length
    · obtain ⟨b1, o1, hb1, e1⟩ := (show IntsAt wr a1 l from RowAt.below H1.out HBR.out).at_ hlt
      obtain ⟨b2, o2, hb2, e2⟩ := (show IntsAt wr a2 l from RowAt.below H2.out HBR.out).at_ hlt
      rw [hb1, hb2]
      have hk0 : (0 : Int) ≤ k := by omega
      have hlt' : (k : Int) < l.length := by omega
      generalize l[k] = z at *
      go_wp2
      go_quiet (fail)
      go_wp2
      go_roundw
      case rel => exact ⟨k + 1, by omega, by go_num, below_drewN HBR.out nq⟩
      case measure => simp [intOf]; omega
    · have hlt' : ¬ (k : Int) < l.length := by omega
      go_wp2
      go_ret
      exact ⟨rfl, HBR.out⟩
set_option maxHeartbeats 1000000 in
theorem texts_refl (a1 a2 : Option Addr) (l : List (List UInt8)) (c1 c2 : Nat) (w : World) (h1 : TextsAt w a1 l) (h2 : TextsAt w a2 l) :
    Calls Try.prog 31 #[.slice a1 l.length c1, .slice a2 l.length c2] w fun e w' => e = .returned (.bool true) ∧ Below w.heap.size w w' := by
  have H1 := Lib.hid h1
  have H2 := Lib.hid h2
  have HB : Hid (Below w.heap.size w w) := Below.refl _ _
  have hl := h1.len
  unfold maxLen at hl
  clear h1 h2
  go_enter Try.func31, Try.ntmps31
  go_wp2
  go_loopw [13] (fun i wr => ∃ k : Nat, k ≤ l.length ∧ i = .int .i64 k ∧ Hid (Below w.heap.size w wr)) (fun i _ => l.length - (intOf i).toNat)
  case atStart => exact ⟨0, Nat.zero_le _, rfl, HB⟩
  case round =>
    obtain ⟨k, hk, rfl, HBR⟩ := hrel
    by_cases hlt : k < l.length
    · obtain ⟨b1, o1, hb1, e1⟩ := (show TextsAt wr a1 l from RowAt.below H1.out HBR.out).at_ hlt
      obtain ⟨b2, o2, hb2, e2⟩ := (show TextsAt wr a2 l from RowAt.below H2.out HBR.out).at_ hlt
      rw [hb1, hb2]
      have hk0 : (0 : Int) ≤ k := by omega
      have hlt' : (k : Int) < l.length := by omega
      generalize l[k] = z at *
      go_wp2
      go_quiet (fail)
      go_wp2
      go_roundw
      case rel => exact ⟨k + 1, by omega, by go_num, below_drewN HBR.out nq⟩
      case measure => simp [intOf]; omega
    · have hlt' : ¬ (k : Int) < l.length := by omega
      go_wp2
      go_ret
      exact ⟨rfl, HBR.out⟩
set_option maxRecDepth 100000 in
set_option maxHeartbeats 1000000 in
theorem same8_refl (t : Tab) (p p2 : Lie) (w : World) (h : TabAt w t p) (h2 : TabAt w t p2) :
    Calls Try.prog 30 #[.agg #[.int .i64 t.dmany, .slice p.an t.next.length p.cn, .slice p.at_ t.tags.length p.ct], .agg #[.int .i64 t.dmany, .slice p2.an t.next.length p2.cn, .slice p2.at_ t.tags.length p2.ct]] w fun e w' => e = .returned (.bool true) ∧ Below w.heap.size w w' := by
  have HL : Hid (∀ W, Below w.heap.size w W → Calls Try.prog 42 #[.slice p.an t.next.length p.cn, .slice p2.an t.next.length p2.cn] W fun e w' => e = .returned (.bool true) ∧ Below W.heap.size W w') := fun W hb => ints_refl _ _ _ _ _ _ (RowAt.below h.next hb) (RowAt.below h2.next hb)
  have HM : Hid (∀ W, Below w.heap.size w W → Calls Try.prog 42 #[.slice p.at_ t.tags.length p.ct, .slice p2.at_ t.tags.length p2.ct] W fun e w' => e = .returned (.bool true) ∧ Below W.heap.size W w') := fun W hb => ints_refl _ _ _ _ _ _ (RowAt.below h.tags hb) (RowAt.below h2.tags hb)
  have HB : Hid (Below w.heap.size w ((w.alloc (.cells #[.int .i64 t.dmany, .slice p.an t.next.length p.cn, .slice p.at_ t.tags.length p.ct] 27)).alloc (.cells #[.int .i64 t.dmany, .slice p2.an t.next.length p2.cn, .slice p2.at_ t.tags.length p2.ct] 27))) := ((Below.refl _ _).alloc (Nat.le_refl _) _).alloc (by simp) _
  clear h h2
  have TOK : Hid True := trivial
  go_enter Try.func30, Try.ntmps30
  go_wp2_with (first
    | (clear TOK; go_at_call 42; refine (HL.out _ HB.out).mono ?_; rintro e w2 ⟨rfl, hb2⟩; have HB2 := Lib.hid (HB.out.trans (hb2.mono HB.out.size)); have q1 := (hb2.cell (p := ⟨w.heap.size + 1, 2, none⟩) (by simp)); have q2 := (hb2.cell (p := ⟨w.heap.size, 2, none⟩) (by simp; omega)); simp at q1 q2)
    | (go_at_call 42; refine (HM.out _ HB2.out).mono ?_; rintro e w3 ⟨rfl, hb3⟩; have HB3 := Lib.hid (HB2.out.trans (hb3.mono HB2.out.size))))
  go_ret
  exact ⟨rfl, HB3.out⟩
end Go.Proofs.Ytkgfjapflpjdbaa
