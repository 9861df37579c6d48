/-
  The contracts of path.PrintBox, path.Print. Conditions: texts of at most 2^40 bytes; the library's variable holds some value.
-/
import Derived.Test.YtjgadocojdieeaaGreatDoorPtZd
namespace Go.Proofs.YtjgadocojdieeaaGreatDoor
open Go.RowKit Go.Shelf

/-- what is printed of a mailbox, of a path; and what is told beside it -/
def printBoxP (loc d : List UInt8) (lit : Bool) : List UInt8 × Int := if rightBoxD loc d lit = true then (boxD loc d lit, 0) else ([], 150)
def printP (p : Pa) : List UInt8 × Int := if rightD p = true then (printD p, 0) else ([], 150)
theorem rightBox_loc {loc d : List UInt8} {lit : Bool} (h : rightBoxD loc d lit = true) : loc.length ≤ 64 := by
  unfold rightBoxD at h
  simp only [Bool.and_eq_true, decide_eq_true_eq] at h
  exact h.1.1
/-- a text and a number are answered -/
def PrOut (w : World) (t : List UInt8 × Int) (e : Ending) (w' : World) : Prop := e = .returned (.tuple #[.string (bs t.1), .int .i64 t.2]) ∧ Below w.heap.size w w'
set_option maxRecDepth 100000 in
set_option maxHeartbeats 1000000 in
theorem printBox_any (loc d : List UInt8) (lit : Bool) (hl : loc.length ≤ 1099511627776) (hd : d.length ≤ 1099511627776) (w : World) (he : ErrAt w ∧ ErrG < w.heap.size) : Calls Tryz.prog 19 #[.agg (boxCells loc d lit)] w (PrOut w (printBoxP loc d lit)) := by
  obtain ⟨W1, hW1⟩ : ∃ W1, W1 = w.alloc (.cells (boxCells loc d lit) 24) := ⟨_, rfl⟩
  obtain ⟨g1, hg1⟩ : ∃ g1, g1 = w.heap.size := ⟨_, rfl⟩
  have hb1 : Below w.heap.size w W1 := by rw [hW1]; exact (Below.refl _ w).alloc (Nat.le_refl _) _
  have hk1 : Blk W1 g1 24 (boxCells loc d lit) := by rw [hW1, hg1]; exact Blk.new _ _ _
  have HR := Lib.hid (rightBox_any loc d lit (by omega) (by omega) W1 (ErrAt.later he hb1))
  have HL1 := Lib.hid hb1
  have HQ : Hid (∀ w', Below w.heap.size w w' → PrOut w (printBoxP loc d lit) (.returned (.tuple #[.string (bs (printBoxP loc d lit).1), .int .i64 (printBoxP loc d lit).2])) w') := fun w' h => ⟨rfl, h⟩
  generalize PrOut w (printBoxP loc d lit) = Q at *
  have HK2 : Hid (∀ w2, Below W1.heap.size W1 w2 → w2.cell? ⟨g1, 0, none⟩ = some (.string (bs loc)) ∧ w2.cell? ⟨g1, 1, none⟩ = some (.string (bs d)) ∧ w2.cell? ⟨g1, 2, none⟩ = some (.bool lit)) := fun w2 h2 => by
    have h := hk1.below h2 hk1.lt
    exact ⟨h.cell 0, h.cell 1, h.cell 2⟩
  obtain ⟨x0, x1, x2⟩ := HK2.out W1 (Below.refl _ _)
  unfold boxCells at HR hW1 ⊢
  unfold printBoxP at HQ
  have HW1 := Lib.hid hW1
  have HG1 := Lib.hid hg1
  cases hr : rightBoxD loc d lit with
  | true =>
    rw [hr] at HR
    rw [if_pos hr] at HQ
    have HB := Lib.hid (fun W (hW : Below w.heap.size w W) => boxText_any loc d lit (by have := rightBox_loc hr; omega) hd W (ErrAt.later he hW))
    unfold boxCells at HB
    clear hr he hl hd hW1 hg1 hb1 hk1
    generalize bs (boxD loc d lit) = t at *
    generalize bs loc = t1 at *
    generalize bs d = t2 at *
    go_enter Tryz.func19, Tryz.ntmps19
    go_upto_region 1 with (fail)
    rw [← HW1.out, ← HG1.out]
    go_wp2_with (first | (go_at_call 47; refine HR.out.mono ?_; rintro e w2 ⟨rfl, hb⟩; have HL2 := Lib.hid (low_trans HL1.out hb); obtain ⟨y0, y1, y2⟩ := HK2.out w2 hb; clear hb HR x0 x1 x2) | (go_at_call 51; refine (HB.out _ HL2.out).mono ?_; rintro e w3 ⟨rfl, hb⟩; have HL3 := Lib.hid (low_trans HL2.out hb); clear hb HB))
    exact HQ.out _ HL3.out
  | false =>
    rw [hr] at HR
    rw [if_neg (by rw [hr]; decide)] at HQ
    clear hr he hl hd hW1 hg1 hb1 hk1
    generalize bs loc = t1 at *
    generalize bs d = t2 at *
    go_enter Tryz.func19, Tryz.ntmps19
    go_upto_region 1 with (fail)
    rw [← HW1.out, ← HG1.out]
    go_wp2_with (go_at_call 47; refine HR.out.mono ?_; rintro e w2 ⟨rfl, hb⟩; have HL2 := Lib.hid (low_trans HL1.out hb); clear hb HR)
    exact HQ.out _ HL2.out
theorem join_hops (d : List UInt8) (L : List (List UInt8)) : Lib.join (d :: L) [44, 64] = d ++ hopsT L := by
  unfold Lib.join hopsT
  induction L generalizing d with
  | nil => simp [List.intercalate]
  | cons e L ih =>
    have h := ih e
    simp only [List.intercalate, List.intersperse, List.flatten_cons, List.flatMap_cons] at h ⊢
    rw [h]
    simp
theorem hops_most (L : List (List UInt8)) (m : Nat) (h : ∀ d ∈ L, d.length ≤ m) : (hopsT L).length ≤ L.length * (m + 2) := by
  unfold hopsT
  induction L with
  | nil => simp
  | cons d L ih =>
    have h1 := h d (by simp)
    have h2 := ih (fun e he => h e (by simp [he]))
    simp only [List.flatMap_cons, List.length_append, List.length_cons] at h2 ⊢
    rw [Nat.add_mul]
    omega
theorem join_any (d : List UInt8) (L : List (List UInt8)) (h20 : (d :: L).length ≤ 20) (hm : ∀ e ∈ d :: L, e.length ≤ 1099511627776) (a : Option Addr) (c : Nat) (hc : (d :: L).length ≤ c) (w : World) (h : TextsAt w a (d :: L)) : Calls Tryz.prog 50 #[.slice a (d :: L).length c, .string (bs [44, 64])] w fun e w' => e = .returned (.string (bs (d ++ hopsT L))) ∧ Below w.heap.size w w' := by
  obtain ⟨b, o, rfl, hcell⟩ := TextsAt.at_ h (k := 0) (by simp)
  have hlt := World.block_lt_of_cell? _ _ hcell
  have hall : ∀ (j : Nat) x, ((d :: L).map bs)[j]? = some x → w.cell? ⟨b, o + j, none⟩ = some (.string x) := fun j x hj => by
    rw [List.getElem?_map] at hj
    obtain ⟨y, hy, rfl⟩ := Option.map_eq_some_iff.1 hj
    obtain ⟨hj2, rfl⟩ := List.getElem?_eq_some_iff.1 hy
    obtain ⟨b', o', e, hc'⟩ := TextsAt.at_ h hj2
    injection e with e
    injection e with e1 e2
    subst e1
    subst e2
    exact hc'
  have hj : ((d :: L).map bs).map (·.data.toList) = d :: L := by
    rw [List.map_map]
    exact List.map_id' _
  have hmost := hops_most L 1099511627776 (fun e he => hm e (by simp [he]))
  have hd := hm d (by simp)
  have hL : L.length ≤ 19 := by simp at h20; omega
  have hmul : L.length * (1099511627776 + 2) ≤ 19 * (1099511627776 + 2) := Nat.mul_le_mul_right _ hL
  have hjn : Lib.join (((d :: L).map bs).map (·.data.toList)) ((bs [44, 64]).data.toList) = d ++ hopsT L := by
    rw [hj]
    exact join_hops d L
  have := Tryz.strings_Join b o c ((d :: L).map bs) (bs [44, 64]) w hall hlt (by rw [List.length_map]; omega) (by rw [List.length_map]; exact hc) (by rw [hjn, List.length_append]; omega)
  rw [hjn, List.length_map] at this
  exact this
end Go.Proofs.YtjgadocojdieeaaGreatDoor
