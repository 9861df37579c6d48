/-
  How long what is printed may be; a mailbox that is printed is read again. No conditions.
-/
import Derived.Test.YtjgadocojdieeaaGreatDoorPtZr
namespace Go.Proofs.YtjgadocojdieeaaGreatDoor
open Go.RowKit Go.Shelf

theorem print_most {p : Pa} (h : rightD p = true) : (printD p).length ≤ 10000 := by
  obtain ⟨h1, h2, h3, h4⟩ := right_lens h
  unfold printD
  split
  · simp
  · split
    · decide
    · have hb := boxD_most p.loc p.dom p.lit
      have hr : (routeD p.route).length ≤ 6000 := by
        cases hro : p.route with
        | nil => simp [routeD]
        | cons d L =>
          rw [hro] at h3 h4
          have e1 := h4 d (by simp)
          have e2 := hops_most L 255 (fun e he => h4 e (by simp [he]))
          have e3 : L.length ≤ 19 := by simp at h3; omega
          have e4 : L.length * (255 + 2) ≤ 19 * (255 + 2) := Nat.mul_le_mul_right _ e3
          unfold routeD
          simp only [List.length_cons, List.length_append, List.length_nil]
          omega
      simp only [List.length_cons, List.length_append, List.length_nil]
      omega
theorem PaFits.mono {p : Pa} {n m : Nat} (h : PaFits p n) (hm : n ≤ m) : PaFits p m := ⟨Nat.le_trans h.loc hm, Nat.le_trans h.dom hm, fun d hd => Nat.le_trans (h.hops d hd) hm⟩
theorem domB_nil : dB [] = false := by decide +kernel
theorem wordB_nil : wB [] = false := by decide +kernel
theorem box_dom {loc d : List UInt8} {lit : Bool} (h : rightBoxD loc d lit = true) : d ≠ [] := by
  rintro rfl
  unfold rightBoxD toldB fineB at h
  rw [domB_nil, wordB_nil] at h
  simp at h
theorem right_dom {p : Pa} (h : rightD p = true) : decide (p.dom = []) = !rightBoxD p.loc p.dom p.lit := by
  cases hb : rightBoxD p.loc p.dom p.lit with
  | true => rw [decide_eq_false (box_dom hb)]; rfl
  | false =>
    have hd : p.dom = [] := by
      unfold rightD at h
      split at h
      · simp only [Bool.and_eq_true, decide_eq_true_eq] at h
        exact h.2.1.2
      · split at h
        · rename_i _ ha
          unfold aloneB at ha
          simp only [Bool.and_eq_true, decide_eq_true_eq] at ha
          exact ha.1.2
        · simp only [Bool.and_eq_true] at h
          rw [hb] at h
          exact absurd h.2 (by decide)
    rw [decide_eq_true hd]
    rfl
/-- a mailbox that is right is read again as it was printed -/
theorem mailbox_print {loc d : List UInt8} {lit : Bool} (h : rightBoxD loc d lit = true) : mailboxP (boxD loc d lit) = (0, loc, d, lit) := by
  have h1 := box_all (x := []) (box_print h) (stop_nil _) (st0 (boxD loc d lit)) rfl (by rw [List.append_nil]; rfl)
  unfold mailboxP wholeR
  rw [h1]
  rfl
end Go.Proofs.YtjgadocojdieeaaGreatDoor
