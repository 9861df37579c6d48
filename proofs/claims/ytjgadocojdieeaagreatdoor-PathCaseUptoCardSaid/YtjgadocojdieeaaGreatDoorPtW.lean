/-
  The contract of frankinglaw15.reads. Conditions: the text is of at most 2^40 bytes; the path's route lies in memory; the library's variable holds some value.
-/
import Derived.Test.YtjgadocojdieeaaGreatDoorPtV
namespace Go.Proofs.YtjgadocojdieeaaGreatDoor
open Go.RowKit Go.Shelf

theorem ErrAt.later {w w' : World} (h : ErrAt w ∧ ErrG < w.heap.size) (hb : Below w.heap.size w w') : ErrAt w' ∧ ErrG < w'.heap.size := ⟨h.1.below hb h.2, Nat.lt_of_lt_of_le h.2 hb.size⟩
theorem bs_app (a b : List UInt8) : bs a ++ bs b = bs (a ++ b) := by
  unfold bs
  exact ByteArray.mk_append_mk a b
theorem parse_short (s : List UInt8) : (parseP s).2.2 ≤ s.length := by
  unfold parseP
  split
  · simp only; omega
  · exact Nat.zero_le _
/-- what Parse told, as a path that lies in memory -/
theorem told_form {w w' : World} {s : List UInt8} {e : Ending} (h : ParseOut w s e w') (hl : (parseP s).2.1.route.length ≤ maxLen) : ∃ a c, e = .returned (.tuple #[paV (parseP s).2.1 a c, .int .i64 (((parseP s).2.2 : Nat) : Int), .int .i64 (parseP s).1]) ∧ TextsAt w' a (parseP s).2.1.route ∧ Below w.heap.size w w' := by
  obtain ⟨v, h1, h2, h3⟩ := h
  obtain ⟨a, c, rfl, h4⟩ := own_slice h2 (by rw [List.length_map]; exact hl)
  exact ⟨a, c, h1, h4, h3⟩
set_option maxRecDepth 100000 in
set_option maxHeartbeats 2000000 in
theorem reads_yes (s : List UInt8) (hs : s.length ≤ 1000) (p : Pa) (hp : parseP (s ++ [32, 122]) = (0, p, s.length)) (hpl : p.route.length ≤ maxLen) (a : Option Addr) (c : Nat) (w : World) (he : ErrAt w ∧ ErrG < w.heap.size) (hr : TextsAt w a p.route) :
    Calls Tryz.prog 26 #[.string (bs s), paV p a c] w (SameOut w true) := by
  obtain ⟨g1, hg1⟩ : ∃ g1, g1 = w.heap.size := ⟨_, rfl⟩
  obtain ⟨W1, hW1⟩ : ∃ W1, W1 = w.alloc (.cells (paCells p (.slice a p.route.length c)) 26) := ⟨_, rfl⟩
  have hb1 : Below w.heap.size w W1 := by rw [hW1]; exact (Below.refl _ w).alloc (Nat.le_refl _) _
  have hk1 : Blk W1 g1 26 (paCells p (.slice a p.route.length c)) := by rw [hW1, hg1]; exact Blk.new _ _ _
  have he1 := ErrAt.later he hb1
  have HPC := Lib.hid ((parse_fun (s ++ [32, 122]) (by simp; omega) W1 he1.1 he1.2).mono (fun e w' h => told_form h (by rw [hp]; exact hpl)))
  simp only [hp] at HPC
  have HK1 := Lib.hid hk1
  have HL1 := Lib.hid hb1
  have HR := Lib.hid hr
  have happ : bs s ++ (⟨#[32, 122]⟩ : ByteArray) = bs (s ++ [32, 122]) := bs_app s [32, 122]
  have hsz : (bs s).size = s.length := rfl
  have HQ : Hid (∀ w', Below w.heap.size w w' → SameOut w true (.returned (.bool true)) w') := fun w' h => ⟨rfl, h⟩
  generalize SameOut w true = Q at *
  have HW1 := Lib.hid hW1
  unfold paV paCells
  unfold paCells at HW1
  have hsb : (s.length : Int) ≤ 1000 := by omega
  have hadd : (Op.stringOp .add (bs s) (⟨#[32, 122]⟩ : ByteArray)).run Tryz.prog W1 = .ok (.string (bs (s ++ [32, 122]))) W1 := by
    rw [run_string_add_sum W1 (bs s) ⟨#[32, 122]⟩ (by rw [hsz]; show s.length + 2 ≤ _; omega), happ]
  have hg1' := Lib.hid hg1
  clear hp hpl hs he hr hb1 hk1 he1 hW1 hg1 happ
  go_enter Tryz.func26, Tryz.ntmps26
  go_upto_region 1 with (fail)
  rw [← HW1.out, ← hg1'.out]
  go_upto_region 2 with (go_at_call 6; refine HPC.out.mono ?_; rintro e w2 ⟨a2, c2, rfl, ht2, hb2⟩; unfold paV paCells; have HT2 := Lib.hid ht2; have HB2 := Lib.hid hb2; clear ht2 hb2 hadd)
  obtain ⟨W3, hW3⟩ : ∃ W3, W3 = w2.alloc (.cells #[.bool p.null, .slice a2 p.route.length c2, .string (bs p.loc), .string (bs p.dom), .bool p.lit] 26) := ⟨_, rfl⟩
  have hb3 : Below w2.heap.size w2 W3 := by rw [hW3]; exact (Below.refl _ w2).alloc (Nat.le_refl _) _
  obtain ⟨g2, hg2⟩ : ∃ g2, g2 = w2.heap.size := ⟨_, rfl⟩
  have hk3 : Blk W3 g2 26 #[.bool p.null, .slice a2 p.route.length c2, .string (bs p.loc), .string (bs p.dom), .bool p.lit] := by rw [hW3, hg2]; exact Blk.new _ _ _
  rw [← hW3, ← hg2]
  have hk1 : Blk W3 g1 26 #[.bool p.null, .slice a p.route.length c, .string (bs p.loc), .string (bs p.dom), .bool p.lit] := (HK1.out.below HB2.out HK1.out.lt).below hb3 (Nat.lt_of_lt_of_le HK1.out.lt HB2.out.size)
  have hlow : Below w.heap.size w W3 := low_trans (low_trans HL1.out HB2.out) hb3
  have HSM := Lib.hid (same_any p p a a2 c c2 W3 (RowAt.below HR.out hlow) (RowAt.below HT2.out hb3))
  rw [decide_eq_true rfl] at HSM
  have HLW := Lib.hid hlow
  have x0 := hk1.cell 0
  have x1 := hk1.cell 1
  have x2 := hk1.cell 2
  have x3 := hk1.cell 3
  have x4 := hk1.cell 4
  have y0 := hk3.cell 0
  have y1 := hk3.cell 1
  have y2 := hk3.cell 2
  have y3 := hk3.cell 3
  have y4 := hk3.cell 4
  simp at x0 x1 x2 x3 x4 y0 y1 y2 y3 y4
  have hsq : ((s.length : Int) == ((bs s).size : Int)) = true := by rw [hsz]; simp
  unfold paV paCells at HSM
  clear hW3 hb3 hg2 hk3 hk1 hlow HW1 hg1' HPC HK1 HL1 HB2 HT2 HR
  go_wp2_with (go_at_call 8; refine HSM.out.mono ?_; rintro e w4 ⟨rfl, hb4⟩; have HB4 := Lib.hid (low_trans HLW.out hb4); clear hb4)
  exact HQ.out w4 HB4.out
end Go.Proofs.YtjgadocojdieeaaGreatDoor
