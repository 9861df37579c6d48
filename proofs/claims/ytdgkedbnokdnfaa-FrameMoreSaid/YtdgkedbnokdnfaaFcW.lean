/-
  The contract of frankinglaw12.FrameChunks. Conditions: the slices lie in memory.
-/
import Derived.Test.YtdgkedbnokdnfaaFrW
namespace Go.Proofs.Ytdgkedbnokdnfaa
open Go.RowKit

/-- the contract of all, its lines read -/
theorem all_at (n : Nat) (h0 : 1 ≤ n) (h1 : n ≤ 2000) (ba : Option Addr) (b : List UInt8) (cb : Nat) (sa : Option Addr) (sizes : List UInt8) (cs : Nat) (w : World) (hb : BytesAt w ba b) (hc : b.length ≤ cb) (hs : BytesAt w sa sizes) (hn : b.length ≤ 20000) :
    Calls Try.prog 8 #[.int .i64 (n : Int), .slice ba b.length cb, .slice sa sizes.length cs] w fun e W' => ∃ A c', e = .returned (.tuple #[.agg (frT n (rawP [] b).1), .slice A (frTold n b).length c', .bool true]) ∧
      RowAt W' A (linCells (frTold n b)) ∧ Below w.heap.size w W' := by
  refine (all_any n h0 h1 ba b cb sa sizes cs w hb hc hs hn).mono ?_
  rintro e W' ⟨vl, rfl, ho, hb2⟩
  obtain ⟨A, c', rfl, _⟩ := own_form ho
  refine ⟨A, c', rfl, row_of_own ho ?_, hb2⟩
  have := frTold_few n b
  rw [linCells_len]
  unfold maxLen
  omega
/-- two lists of lines that are the same -/
theorem same_rows (a b : Option Addr) (c d : Nat) (ls : List LnP) (w : World) (ha : RowAt w a (linCells ls)) (hb : RowAt w b (linCells ls)) (hn : ls.length ≤ 100000) :
    Calls Try.prog 9 #[.slice a ls.length c, .slice b ls.length d] w fun e w' => e = .returned (.bool true) ∧ Below w.heap.size w w' := by
  refine (same_eq a b c d ls w ha hb hn).mono ?_
  rintro e w' ⟨rfl, m, rfl⟩
  exact ⟨rfl, below_drewN (Below.refl _ _) m⟩
theorem nil_bytes (w : World) : BytesAt w none [] := ⟨by decide, fun h => absurd h (by decide)⟩
set_option maxRecDepth 100000 in
set_option maxHeartbeats 4000000 in
theorem chunks_any (mo : Nat) (hmo : mo < 65536) (ba xa ya : Option Addr) (b xs ys : List UInt8) (cb cx cy : Nat) (w : World) (hb : BytesAt w ba b) (hc : b.length ≤ cb) (hx : BytesAt w xa xs) (hy : BytesAt w ya ys) :
    Calls Try.prog 3 #[.int .u16 (mo : Int), .slice ba b.length cb, .slice xa xs.length cx, .slice ya ys.length cy] w fun e w' => e = .returned (.bool true) ∧ Below w.heap.size w w' := by
  have HAW := Lib.hid (fun W => awake_any W)
  by_cases hl : b.length ≤ 3000
  · have hl' : ¬ (3000 : Int) < (b.length : Int) := by omega
    have hrem : (mo : Int).tmod 2000 = ((mo % 2000 : Nat) : Int) := rem_of mo 2000 (by decide)
    obtain ⟨n, hn⟩ : ∃ n, n = 1 + mo % 2000 := ⟨_, rfl⟩
    have hn1 : 1 ≤ n ∧ n ≤ 2000 := by omega
    have hm0 : (0 : Int) ≤ (mo : Int) := by omega
    have hm1 : (mo : Int) < 65536 := by omega
    have hni : (1 : Int) + ((mo % 2000 : Nat) : Int) = (n : Int) := by omega
    have hs0 : (0 : Int) ≤ ((mo % 2000 : Nat) : Int) := by omega
    have hs1 : ((mo % 2000 : Nat) : Int) < 2000 := by omega
    have HA := Lib.hid (fun W (hW : Below w.heap.size w W) => all_at n hn1.1 hn1.2 ba b cb xa xs cx W (RowAt.below hb hW) hc (RowAt.below hx hW) (by omega))
    have HB := Lib.hid (fun W (hW : Below w.heap.size w W) => all_at n hn1.1 hn1.2 ba b cb ya ys cy W (RowAt.below hb hW) hc (RowAt.below hy hW) (by omega))
    have HC := Lib.hid (fun W (hW : Below w.heap.size w W) => all_at n hn1.1 hn1.2 ba b cb none [] 0 W (RowAt.below hb hW) hc (nil_bytes W) (by omega))
    have hfew : (frTold n b).length ≤ 3000 := Nat.le_trans (frTold_few n b) hl
    generalize rawP [] b = T at *
    unfold frT frCells at HA HB HC
    generalize bs ((bodyP T.1).take n) = H at *
    generalize decide (n < (bodyP T.1).length) = ov at *
    generalize lastCr T.1 = cr at *
    generalize frTold n b = ls at *
    generalize b.length = N at *
    generalize xs.length = X at *
    generalize ys.length = Y at *
    generalize ((mo % 2000 : Nat) : Int) = r at *
    clear hb hx hy hn
    go_enter Try.func3, Try.ntmps3
    go_upto_region 5 with (go_at_call 8; refine (HA.out _ (Below.refl _ _)).mono ?_; rintro e w1 ⟨A1, c1, rfl, ra1, hb1⟩)
    have hbA : Below w.heap.size w (w1.alloc (.cells #[.int .i64 (n : Int), .string H, .bool ov, .bool cr] 26)) := hb1.alloc hb1.size _
    have HF11 : Hid (Blk (w1.alloc (.cells #[.int .i64 (n : Int), .string H, .bool ov, .bool cr] 26)) w1.heap.size 26 #[.int .i64 (n : Int), .string H, .bool ov, .bool cr]) := Blk.new _ _ _
    have HR11 := Lib.hid (RowAt.below ra1 ((Below.refl w1.heap.size w1).alloc (Nat.le_refl _) (.cells #[.int .i64 (n : Int), .string H, .bool ov, .bool cr] 26)))
    have HL1 := Lib.hid (hbA)
    clear hbA hb1 ra1 
    generalize w1.alloc (.cells #[.int .i64 (n : Int), .string H, .bool ov, .bool cr] 26) = W1 at *
    generalize w1.heap.size = f1 at *
    go_upto_region 6 with (go_at_call 8; refine (HB.out _ HL1.out).mono ?_; rintro e w2 ⟨A2, c2, rfl, ra2, hb2⟩)
    have hbA : Below W1.heap.size W1 (w2.alloc (.cells #[.int .i64 (n : Int), .string H, .bool ov, .bool cr] 26)) := hb2.alloc hb2.size _
    have HF22 : Hid (Blk (w2.alloc (.cells #[.int .i64 (n : Int), .string H, .bool ov, .bool cr] 26)) w2.heap.size 26 #[.int .i64 (n : Int), .string H, .bool ov, .bool cr]) := Blk.new _ _ _
    have HR22 := Lib.hid (RowAt.below ra2 ((Below.refl w2.heap.size w2).alloc (Nat.le_refl _) (.cells #[.int .i64 (n : Int), .string H, .bool ov, .bool cr] 26)))
    have HR12 := Lib.hid (RowAt.below HR11.out hbA)
    have HF12 := Lib.hid (HF11.out.below hbA HF11.out.lt)
    have HL2 := Lib.hid (low_trans HL1.out hbA)
    clear hbA hb2 ra2 HR11 HF11 HL1
    generalize w2.alloc (.cells #[.int .i64 (n : Int), .string H, .bool ov, .bool cr] 26) = W2 at *
    generalize w2.heap.size = f2 at *
    go_upto_region 7 with (go_at_call 8; refine (HC.out _ HL2.out).mono ?_; rintro e w3 ⟨A3, c3, rfl, ra3, hb3⟩)
    have hbA : Below W2.heap.size W2 (w3.alloc (.cells #[.int .i64 (n : Int), .string H, .bool ov, .bool cr] 26)) := hb3.alloc hb3.size _
    have HF33 : Hid (Blk (w3.alloc (.cells #[.int .i64 (n : Int), .string H, .bool ov, .bool cr] 26)) w3.heap.size 26 #[.int .i64 (n : Int), .string H, .bool ov, .bool cr]) := Blk.new _ _ _
    have HR33 := Lib.hid (RowAt.below ra3 ((Below.refl w3.heap.size w3).alloc (Nat.le_refl _) (.cells #[.int .i64 (n : Int), .string H, .bool ov, .bool cr] 26)))
    have HR13 := Lib.hid (RowAt.below HR12.out hbA)
    have HF13 := Lib.hid (HF12.out.below hbA HF12.out.lt)
    have HR23 := Lib.hid (RowAt.below HR22.out hbA)
    have HF23 := Lib.hid (HF22.out.below hbA HF22.out.lt)
    have HL3 := Lib.hid (low_trans HL2.out hbA)
    clear hbA hb3 ra3 HR12 HF12 HR22 HF22 HL2
    generalize w3.alloc (.cells #[.int .i64 (n : Int), .string H, .bool ov, .bool cr] 26) = W3 at *
    generalize w3.heap.size = f3 at *
    have hF := HF13.out
    have p1c0 := hF.cell 0
    have p1c1 := hF.cell 1
    have p1c2 := hF.cell 2
    have p1c3 := hF.cell 3
    simp at p1c0 p1c1 p1c2 p1c3
    clear hF
    have hF := HF23.out
    have p2c0 := hF.cell 0
    have p2c1 := hF.cell 1
    have p2c2 := hF.cell 2
    have p2c3 := hF.cell 3
    simp at p2c0 p2c1 p2c2 p2c3
    clear hF
    have hF := HF33.out
    have p3c0 := hF.cell 0
    have p3c1 := hF.cell 1
    have p3c2 := hF.cell 2
    have p3c3 := hF.cell 3
    simp at p3c0 p3c1 p3c2 p3c3
    clear hF
    have hS1 := same_rows A1 A2 c1 c2 ls W3 HR13.out HR23.out (by omega)
    go_wp2_with (go_at_call 9; refine hS1.mono ?_)
    rintro e w4 ⟨rfl, hb4⟩
    clear hS1
    have hS2 := same_rows A2 A3 c2 c3 ls w4 (RowAt.below HR23.out hb4) (RowAt.below HR33.out hb4) (by omega)
    have HL4 := Lib.hid (low_trans HL3.out hb4)
    clear hb4
    go_wp2_with (go_at_call 9; refine hS2.mono ?_)
    rintro e w5 ⟨rfl, hb5⟩
    clear hS2
    have HL5 := Lib.hid (low_trans HL4.out hb5)
    clear hb5
    go_wp2_with (go_at_call 7; refine (HAW.out _).mono ?_)
    rintro e w6 ⟨rfl, hb6⟩
    have HL6 := Lib.hid (low_trans HL5.out hb6)
    clear hb6
    go_wp2
    go_ret
    exact ⟨rfl, HL6.out⟩
  · have hl' : (3000 : Int) < (b.length : Int) := by omega
    generalize b.length = N at *
    clear hb hx hy
    go_enter Try.func3, Try.ntmps3
    go_wp2_with (go_at_call 7; refine (HAW.out _).mono ?_; rintro e w1 ⟨rfl, hb1⟩)
    go_ret
    exact ⟨rfl, hb1⟩
end Go.Proofs.Ytdgkedbnokdnfaa
