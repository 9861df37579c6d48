/-
  The contract of frankinglaw13.DotsTells. Conditions: the slice lies in memory; the library's MaxLen holds some number.
-/
import Derived.Test.YtlpplmcploddaaaDoorDtH
import Derived.Test.YtlpplmcploddaaaDoorGd
import Derived.Test.YtlpplmcploddaaaDoorGh
import Derived.Deep.DeepCutAuto
namespace Go.Proofs.YtlpplmcploddaaaDoor
open Go.RowKit Go.Shelf

theorem decode_own {a : Option Addr} {b : List UInt8} {m : Nat} (hm : b.length = m) {c : Nat} (hc : m ≤ c) (hm2 : m ≤ 100000) {w : World} (h : BytesAt w a b) {mx : Int} (hmx : w.cell? ⟨0, 0, none⟩ = some (.int .i64 mx)) :
    Calls Tryd.prog 9 #[.slice a m c] w fun e w' => ∃ A c' body n ok, e = .returned (.tuple #[.slice A (List.length body) c', .int .i64 ((n : Nat) : Int), .bool ok]) ∧ BytesAt w' A body ∧ w'.ownsRow w.heap.size 5 1 (.slice A body.length c') body.length (body.map byteV) ∧ Below w.heap.size w w' ∧ body.length ≤ m ∧ ((ok = false ∧ readD b = none ∧ n = 0 ∧ body = []) ∨ (ok = true ∧ readD b = some (body, n))) := by
  rcases hr : readD b with _ | ⟨body, n⟩
  · refine (decode_no hm hc (by omega) h hmx hr).mono ?_
    rintro e w' ⟨rfl, h1⟩
    exact ⟨none, 0, [], 0, false, rfl, ⟨by decide, fun h => absurd h (by decide)⟩, World.ownsRow_nil _ _ _ _, h1, Nat.zero_le _, .inl ⟨rfl, rfl, rfl, rfl⟩⟩
  · have hs := (again_of b body n hr).small
    refine (decode_yes hm hc (by omega) h hmx hr (by omega)).mono ?_
    rintro e w' ⟨A, c', rfl, h1, h3, h2⟩
    exact ⟨A, c', body, n, true, rfl, h1, h3, h2, by omega, .inr ⟨rfl, rfl⟩⟩
/-- numbers that fit a byte -/
def EachU8 (xs : List Value) : Prop := ∀ u ∈ xs, ∃ z : Int, 0 ≤ z ∧ z ≤ 255 ∧ u = .int .u8 z
theorem each_bytes (l : List UInt8) : EachU8 (l.map byteV) := by
  intro u hu
  obtain ⟨x, _, rfl⟩ := List.mem_map.1 hu
  have := x.toNat_lt
  exact ⟨_, by omega, by omega, rfl⟩
theorem each_set {xs : List Value} (h : EachU8 xs) (i : Nat) (z : Int) (h0 : 0 ≤ z) (h1 : z ≤ 255) : EachU8 (xs.set i (.int .u8 z)) := by
  intro u hu
  rcases List.mem_or_eq_of_mem_set hu with hu | hu
  · exact h u hu
  · exact ⟨z, h0, h1, hu⟩
/-- what is handed out is written over: the two rows, what was there -/
structure TellW (w : World) (B6 B8 : Nat) (A6 : Option Addr) (k6 c6 g8 nz c8 : Nat) (W : World) : Prop where
  c : ∃ xs, W.ownsRow B6 5 1 (.slice A6 k6 c6) k6 xs ∧ EachU8 xs
  e : ∃ zs, W.ownsRow B8 5 1 (.slice (some ⟨g8, 0, none⟩) nz c8) nz zs ∧ EachU8 zs
  low : Below w.heap.size w W
theorem own_lt {W : World} {B g z n c : Nat} {e : TypeId} {xs : List Value} (h : W.ownsRow B e z (.slice (some ⟨g, 0, none⟩) n c) n xs) : B ≤ g ∧ g < W.heap.size := h.lt g rfl
theorem TellW.putc {w W : World} {B6 B8 k6 c6 g6 g8 nz c8 : Nat} (h : TellW w B6 B8 (some ⟨g6, 0, none⟩) k6 c6 g8 nz c8 W) (hB : w.heap.size ≤ B6) (hg : g6 < B8) (i : Nat) (z : Int) (h0 : 0 ≤ z) (h1 : z ≤ 255) : TellW w B6 B8 (some ⟨g6, 0, none⟩) k6 c6 g8 nz c8 (W.setCell ⟨g6, i, none⟩ (.int .u8 z)) := by
  obtain ⟨xs, hx, hxe⟩ := h.c
  obtain ⟨zs, hz, hze⟩ := h.e
  exact ⟨⟨_, own_put hx i _, each_set hxe i z h0 h1⟩, ⟨zs, ownsRow_setCell_below hz (a := ⟨g6, i, none⟩) hg _, hze⟩, h.low.setCell (p := ⟨g6, i, none⟩) (Nat.le_trans hB (own_lt hx).1) _⟩
theorem TellW.pute {w W : World} {B6 B8 k6 c6 g8 nz c8 : Nat} {A6 : Option Addr} (h : TellW w B6 B8 A6 k6 c6 g8 nz c8 W) (hB : w.heap.size ≤ B8) (i : Nat) (z : Int) (h0 : 0 ≤ z) (h1 : z ≤ 255) : ∃ zs, (W.setCell ⟨g8, i, none⟩ (.int .u8 z)).ownsRow B8 5 1 (.slice (some ⟨g8, 0, none⟩) nz c8) nz zs ∧ EachU8 zs ∧ Below w.heap.size w (W.setCell ⟨g8, i, none⟩ (.int .u8 z)) := by
  obtain ⟨zs, hz, hze⟩ := h.e
  exact ⟨_, own_put hz i _, each_set hze i z h0 h1, h.low.setCell (p := ⟨g8, i, none⟩) (Nat.le_trans hB (own_lt hz).1) _⟩
theorem TellW.cellc {w W : World} {B6 B8 k6 c6 g6 g8 nz c8 : Nat} (h : TellW w B6 B8 (some ⟨g6, 0, none⟩) k6 c6 g8 nz c8 W) {i : Nat} (hi : i < k6) : ∃ z : Int, 0 ≤ z ∧ z ≤ 255 ∧ W.cell? ⟨g6, i, none⟩ = some (.int .u8 z) ∧ W.frozen? ⟨g6, i, none⟩ = false := by
  obtain ⟨xs, hx, hxe⟩ := h.c
  have hl := hx.1
  rw [Nat.mul_one] at hl
  obtain ⟨z, h0, h1, e⟩ := hxe xs[i] (List.getElem_mem _)
  have := own_cell hx (j := i) (u := .int .u8 z) (by rw [← e]; exact List.getElem?_eq_getElem _)
  exact ⟨z, h0, h1, this⟩
theorem row_cell {W : World} {B nz c g : Nat} {zs : List Value} (hz : W.ownsRow B 5 1 (.slice (some ⟨g, 0, none⟩) nz c) nz zs) (hze : EachU8 zs) {i : Nat} (hi : i < nz) : ∃ z : Int, 0 ≤ z ∧ z ≤ 255 ∧ W.cell? ⟨g, i, none⟩ = some (.int .u8 z) ∧ W.frozen? ⟨g, i, none⟩ = false := by
  have hl := hz.1
  rw [Nat.mul_one] at hl
  obtain ⟨z, h0, h1, e⟩ := hze zs[i] (List.getElem_mem _)
  have := own_cell hz (j := i) (u := .int .u8 z) (by rw [← e]; exact List.getElem?_eq_getElem _)
  exact ⟨z, h0, h1, this⟩
set_option maxRecDepth 100000 in
set_option maxHeartbeats 1000000 in
theorem tells_any (l0 : List UInt8) (a1 : Option Addr) (b1 : List UInt8) (c1 : Nat) (w : World) (hb1 : BytesAt w a1 b1) (hc1 : b1.length ≤ c1) (mx : Int) (hmx : w.cell? ⟨0, 0, none⟩ = some (.int .i64 mx)) :
    Calls Tryd.prog 3 #[.string (bs l0), .slice a1 b1.length c1] w fun e w' => e = .returned (.bool true) ∧ Below w.heap.size w w' := by
  have hg0 : 0 < w.heap.size := World.block_lt_of_cell? w ⟨0, 0, none⟩ hmx
  have HMX : Hid (∀ W, Below w.heap.size w W → W.cell? ⟨0, 0, none⟩ = some (.int .i64 mx)) := fun W hb => (hb.cell (p := ⟨0, 0, none⟩) hg0).trans hmx
  have HAW : Hid (∀ W, Below w.heap.size w W → Calls Tryd.prog 4 #[] W fun e w' => e = .returned (.bool true) ∧ Below W.heap.size W w') := fun W hb => awake_any W mx (HMX.out W hb)
  obtain ⟨n1, hn1⟩ : ∃ n1, n1 = b1.length := ⟨_, rfl⟩
  rw [← hn1] at hc1
  rw [← hn1]
  obtain ⟨S0, hS0⟩ : ∃ S0, S0 = bs l0 := ⟨_, rfl⟩
  have hs0 : S0.size = l0.length := by rw [hS0, bs_size]
  rw [← hS0]
  by_cases h0 : S0.size ≤ 3000
  · have h0' : ¬ (3000 : Int) < (S0.size : Int) := by omega
    by_cases h1 : n1 ≤ 3000
    · have h1' : ¬ (3000 : Int) < (n1 : Int) := by omega
      have HU := Lib.hid (fun W => unstuff_any l0 (by omega) W)
      have HRU := Lib.hid (fun W => runstuff_any l0 (by omega) W)
      have HS := Lib.hid (fun W => stuff_any l0 (by omega) W)
      have HRS := Lib.hid (fun W => rstuff_any l0 (by omega) W)
      rw [← hS0] at HU HRU HS HRS
      generalize bs (unstD l0) = U at *
      generalize bs (stuffD l0) = V at *
      generalize decide (l0 = [46]) = dd at *
      have HB1 := Lib.hid hb1
      have HN1 := Lib.hid hn1
      have hcv := conv_any w a1 b1 c1 hb1
      have HCB : Hid (∀ W, Below w.heap.size w W → (convert 22 9 (.slice a1 n1 c1)).run Tryd.prog W = .ok (.string (bs b1)) W) := fun W hW => by
        rw [hn1]
        exact conv_any W a1 b1 c1 (RowAt.below hb1 hW)
      clear hcv hb1 hn1 hmx hg0 hS0 hs0
      generalize bs b1 = X at *
      go_enter Tryd.func3, Tryd.ntmps3
      go_upto_region 5 with (first
        | (go_at_call 5; refine (HU.out _).mono ?_; rintro e w2 ⟨rfl, hb2⟩; have HL2 := Lib.hid hb2; clear hb2)
        | (go_at_call 6; refine (HRU.out _).mono ?_; rintro e w3 ⟨rfl, rfl⟩))
      go_upto_region 7 with (first
        | (go_at_call 7; refine (HS.out _).mono ?_; rintro e w4 ⟨rfl, hb4⟩; have HL4 := Lib.hid (low_trans HL2.out hb4); clear hb4)
        | (go_at_call 8; refine (HRS.out _).mono ?_; rintro e w5 ⟨rfl, rfl⟩))
      have hcv := HCB.out _ HL4.out
      have HD := Lib.hid (decode_own (a := a1) HN1.out.symm (c := c1) hc1 (by omega) (RowAt.below HB1.out HL4.out) (HMX.out _ HL4.out))
      go_upto_region 9 with (go_at_call 9; refine HD.out.mono ?_; rintro e w6 ⟨A6, c6, body, n, ok, rfl, hby6, hown6, hb6, hbl, hdec⟩; have HBY6 := Lib.hid hby6; have HOW6 := Lib.hid hown6; have HB6 := Lib.hid hb6; have HL6 := Lib.hid (low_trans HL4.out hb6); have HDEC := Lib.hid hdec; have HBL := Lib.hid hbl; clear hby6 hown6 hb6 hdec HD hcv hbl)
      obtain ⟨k6, hk6⟩ : ∃ k6, k6 = body.length := ⟨_, rfl⟩
      rw [← hk6]
      have HK6 := Lib.hid hk6
      have HRD : Hid (Calls Tryd.prog 10 #[.slice a1 n1 c1] w6 fun e w' => ∃ A c', e = .returned (.tuple #[.slice A k6 c', .int .i64 ((n : Nat) : Int), .bool ok]) ∧ BytesAt w' A body ∧ Below w6.heap.size w6 w') := by
        refine (rdecode_any a1 b1 n1 HN1.out.symm c1 h1 w6 (RowAt.below HB1.out HL6.out) mx (HMX.out _ HL6.out)).mono ?_
        rintro e w' ⟨A, c', body2, n2, ok2, rfl, g1, g2, g3⟩
        have e3 : body2 = body ∧ n2 = n ∧ ok2 = ok := by
          rcases HDEC.out with ⟨q1, q2, q3, q4⟩ | ⟨q1, q2⟩ <;> rcases g3 with ⟨r1, r2, r3, r4⟩ | ⟨r1, r2⟩
          · exact ⟨by rw [q4, r4], by rw [q3, r3], by rw [q1, r1]⟩
          · rw [q2] at r2; cases r2
          · rw [q2] at r2; cases r2
          · rw [q2] at r2
            injection r2 with r2
            injection r2 with x1 x2
            exact ⟨x1.symm, x2.symm, by rw [q1, r1]⟩
        obtain ⟨rfl, rfl, rfl⟩ := e3
        exact ⟨A, c', by rw [HK6.out], g1, g2⟩
      clear hk6
      go_upto_region 10 with (go_at_call 10; refine HRD.out.mono ?_; rintro e w7 ⟨A7, c7, rfl, hby7, hb7⟩; have HBY7 := Lib.hid hby7; have HB7 := Lib.hid hb7; have HL7 := Lib.hid (low_trans HL6.out hb7); clear hby7 hb7 HRD)
      obtain ⟨Z, hZ⟩ : ∃ Z, Z = sentD b1 := ⟨_, rfl⟩
      have HE := Lib.hid (encode_text (a := a1) HN1.out.symm (c := c1) hc1 (by omega) (RowAt.below HB1.out HL7.out) (HMX.out _ HL7.out) (out := Z) hZ.symm)
      have HZ := Lib.hid hZ
      have hzl := sent_le b1 n1 (by have := HN1.out; omega)
      rw [← hZ] at hzl
      obtain ⟨nz, hnz⟩ : ∃ nz, nz = Z.length := ⟨_, rfl⟩
      rw [← hnz] at HE hzl
      have HNZ := Lib.hid hnz
      clear hZ hnz
      go_upto_region 11 with (go_at_call 11; refine HE.out.mono ?_; rintro e w8 ⟨g8, c8, rfl, hby8, hown8, hb8⟩; have HBY8 := Lib.hid hby8; have HOW8 := Lib.hid hown8; have HB8 := Lib.hid hb8; have HL8 := Lib.hid (low_trans HL7.out hb8); clear hby8 hown8 hb8 HE)
      obtain ⟨Y, hY⟩ : ∃ Y, Y = bs body := ⟨_, rfl⟩
      obtain ⟨ZS, hZS⟩ : ∃ ZS, ZS = bs Z := ⟨_, rfl⟩
      have HSW : Hid (∀ W, Below w8.heap.size w8 W → ((convert 22 9 (.slice A6 k6 c6)).run Tryd.prog W = .ok (.string Y) W ∧ (convert 22 9 (.slice A7 k6 c7)).run Tryd.prog W = .ok (.string Y) W ∧ (convert 22 9 (.slice (some ⟨g8, 0, none⟩) nz c8)).run Tryd.prog W = .ok (.string ZS) W)) := fun W hW => by
        refine ⟨?_, ?_, ?_⟩
        · rw [HK6.out, hY]
          exact conv_any W A6 body c6 (RowAt.below (RowAt.below (RowAt.below HBY6.out HB7.out) HB8.out) hW)
        · rw [HK6.out, hY]
          exact conv_any W A7 body c7 (RowAt.below (RowAt.below HBY7.out HB8.out) hW)
        · rw [HNZ.out, hZS]
          exact conv_any W (some ⟨g8, 0, none⟩) Z c8 (RowAt.below HBY8.out hW)
      have HRE : Hid (Calls Tryd.prog 12 #[.slice a1 n1 c1] w8.drew fun e w' => ∃ g c', e = .returned (.slice (some ⟨g, 0, none⟩) nz c') ∧ (convert 22 9 (.slice (some ⟨g, 0, none⟩) nz c')).run Tryd.prog w' = .ok (.string ZS) w' ∧ Below w8.heap.size w8 w') := by
        refine (rencode_any a1 b1 n1 HN1.out.symm c1 h1 w8.drew (RowAt.below HB1.out HL8.out.drew) mx (HMX.out _ HL8.out.drew)).mono ?_
        rintro e w' ⟨g, c', rfl, q1, q2⟩
        rw [← HZ.out] at q1 ⊢
        refine ⟨g, c', by rw [HNZ.out], ?_, low_trans (Below.refl _ _).drew q2⟩
        rw [HNZ.out, hZS]
        exact conv_any w' (some ⟨g, 0, none⟩) Z c' q1
      have HS1 := Lib.hid (HSW.out _ (Below.refl _ _).drew)
      clear hY hZS
      refine wp_region_held_drew (S := (fun W => (convert 22 9 (.slice A6 k6 c6)).run Tryd.prog W = .ok (.string Y) W ∧ (convert 22 9 (.slice A7 k6 c7)).run Tryd.prog W = .ok (.string Y) W ∧ (convert 22 9 (.slice (some ⟨g8, 0, none⟩) nz c8)).run Tryd.prog W = .ok (.string ZS) W)) (by kernel_rfl) HS1.out (fun hS => ?_)
      refine take_val (i := 0) rfl (by kernel_rfl) (by kernel_rfl) (by kernel_rfl) (fun _ _ _ h => h) rfl (fun w hSw => by (try dsimp only at hSw); go_simp; try with_reducible rfl) hS ?_; try simp only [Act.put, List.setIfInBounds_toArray, List.set_cons_zero, List.set_cons_succ]
      refine take_val (i := 1) rfl (by kernel_rfl) (by kernel_rfl) (by kernel_rfl) (fun _ _ _ h => h) rfl (fun w hSw => by (try dsimp only at hSw); go_simp; try with_reducible rfl) hS ?_; try simp only [Act.put, List.setIfInBounds_toArray, List.set_cons_zero, List.set_cons_succ]
      refine take_val (i := 2) rfl (by kernel_rfl) (by kernel_rfl) (by kernel_rfl) (fun _ _ _ h => h) rfl (fun w hSw => by (try dsimp only at hSw); go_simp; try with_reducible rfl) hS ?_; try simp only [Act.put, List.setIfInBounds_toArray, List.set_cons_zero, List.set_cons_succ]
      refine take_val (i := 3) rfl (by kernel_rfl) (by kernel_rfl) (by kernel_rfl) (fun _ _ _ h => h) rfl (fun w hSw => by (try dsimp only at hSw); go_simp; try with_reducible rfl) hS ?_; try simp only [Act.put, List.setIfInBounds_toArray, List.set_cons_zero, List.set_cons_succ]
      refine take_val (i := 4) rfl (by kernel_rfl) (by kernel_rfl) (by kernel_rfl) (fun _ _ _ h => h) rfl (fun w hSw => by (try dsimp only at hSw); go_simp; try with_reducible rfl) hS ?_; try simp only [Act.put, List.setIfInBounds_toArray, List.set_cons_zero, List.set_cons_succ]
      refine take_val (i := 5) rfl (by kernel_rfl) (by kernel_rfl) (by kernel_rfl) (fun _ _ _ h => h) rfl (fun w hSw => by (try dsimp only at hSw); go_simp; try with_reducible rfl) hS ?_; try simp only [Act.put, List.setIfInBounds_toArray, List.set_cons_zero, List.set_cons_succ]
      refine take_val (i := 6) rfl (by kernel_rfl) (by kernel_rfl) (by kernel_rfl) (fun _ _ _ h => h) rfl (fun w hSw => by (try dsimp only at hSw); go_simp; try with_reducible rfl) hS ?_; try simp only [Act.put, List.setIfInBounds_toArray, List.set_cons_zero, List.set_cons_succ]
      refine take_val (i := 7) rfl (by kernel_rfl) (by kernel_rfl) (by kernel_rfl) (fun _ _ _ h => h) rfl (fun w hSw => by (try dsimp only at hSw); go_simp; try with_reducible rfl) hS ?_; try simp only [Act.put, List.setIfInBounds_toArray, List.set_cons_zero, List.set_cons_succ]
      refine take_val (i := 8) rfl (by kernel_rfl) (by kernel_rfl) (by kernel_rfl) (fun _ _ _ h => h) rfl (fun w hSw => by (try dsimp only at hSw); go_simp; try with_reducible rfl) hS ?_; try simp only [Act.put, List.setIfInBounds_toArray, List.set_cons_zero, List.set_cons_succ]
      refine take_val (i := 9) rfl (by kernel_rfl) (by kernel_rfl) (by kernel_rfl) (fun _ _ _ h => h) rfl (fun w hSw => by (try dsimp only at hSw); go_simp; try with_reducible rfl) hS ?_; try simp only [Act.put, List.setIfInBounds_toArray, List.set_cons_zero, List.set_cons_succ]
      refine take_val (i := 10) rfl (by kernel_rfl) (by kernel_rfl) (by kernel_rfl) (fun _ _ _ h => h) rfl (fun w hSw => by (try dsimp only at hSw); go_simp; try with_reducible rfl) hS ?_; try simp only [Act.put, List.setIfInBounds_toArray, List.set_cons_zero, List.set_cons_succ]
      refine take_val (i := 11) rfl (by kernel_rfl) (by kernel_rfl) (by kernel_rfl) (fun _ _ _ h => h) rfl (fun w hSw => by (try dsimp only at hSw); go_simp; try with_reducible rfl) hS ?_; try simp only [Act.put, List.setIfInBounds_toArray, List.set_cons_zero, List.set_cons_succ]
      refine take_val (i := 12) rfl (by kernel_rfl) (by kernel_rfl) (by kernel_rfl) (fun _ _ _ h => h) rfl (fun w hSw => by (try dsimp only at hSw); go_simp; try with_reducible rfl) hS ?_; try simp only [Act.put, List.setIfInBounds_toArray, List.set_cons_zero, List.set_cons_succ]
      refine take_val (i := 13) rfl (by kernel_rfl) (by kernel_rfl) (by kernel_rfl) (fun _ _ _ h => h) rfl (fun w hSw => by (try dsimp only at hSw); go_simp; try with_reducible rfl) hS ?_; try simp only [Act.put, List.setIfInBounds_toArray, List.set_cons_zero, List.set_cons_succ]
      refine take_val (i := 14) rfl (by kernel_rfl) (by kernel_rfl) (by kernel_rfl) (fun _ _ _ h => h) rfl (fun w hSw => by (try dsimp only at hSw); go_simp; try with_reducible rfl) hS ?_; try simp only [Act.put, List.setIfInBounds_toArray, List.set_cons_zero, List.set_cons_succ]
      refine take_val (i := 15) rfl (by kernel_rfl) (by kernel_rfl) (by kernel_rfl) (fun _ _ _ h => h) rfl (fun w hSw => by (try dsimp only at hSw); go_simp; try with_reducible rfl) hS ?_; try simp only [Act.put, List.setIfInBounds_toArray, List.set_cons_zero, List.set_cons_succ]
      refine take_val (i := 16) rfl (by kernel_rfl) (by kernel_rfl) (by kernel_rfl) (fun _ _ _ h => h) rfl (fun w hSw => by (try dsimp only at hSw); go_simp; try with_reducible rfl) hS ?_; try simp only [Act.put, List.setIfInBounds_toArray, List.set_cons_zero, List.set_cons_succ]
      refine take_val (i := 17) rfl (by kernel_rfl) (by kernel_rfl) (by kernel_rfl) (fun _ _ _ h => h) rfl (fun w hSw => by (try dsimp only at hSw); go_simp; try with_reducible rfl) hS ?_; try simp only [Act.put, List.setIfInBounds_toArray, List.set_cons_zero, List.set_cons_succ]
      refine take_val (i := 18) rfl (by kernel_rfl) (by kernel_rfl) (by kernel_rfl) (fun _ _ _ h => h) rfl (fun w hSw => by (try dsimp only at hSw); go_simp; try with_reducible rfl) hS ?_; try simp only [Act.put, List.setIfInBounds_toArray, List.set_cons_zero, List.set_cons_succ]
      refine take_call (i := 19) rfl (by kernel_rfl) rfl (fun K hK => ?_)
      go_simp; refine HRE.out.mono ?_; rintro e w9 ⟨g9, c9, rfl, hcv9, hb9⟩; go_wp2_with fail
      have HB9 := Lib.hid hb9
      refine hK.out _ _ (HSW.out _ hb9) (fun hS => ?_); clear hK K hb9; try simp only [Act.put, List.setIfInBounds_toArray, List.set_cons_zero, List.set_cons_succ]
      refine take_call (i := 20) rfl (by kernel_rfl) rfl (fun K hK => ?_)
      go_simp
      refine hK.out _ _ hS (fun hS => ?_); clear hK K; try simp only [Act.put, List.setIfInBounds_toArray, List.set_cons_zero, List.set_cons_succ]
      refine take_val (i := 21) rfl (by kernel_rfl) (by kernel_rfl) (by kernel_rfl) (fun _ _ _ h => h) rfl (fun w hSw => by (try dsimp only at hSw); go_simp; try with_reducible rfl) hS ?_; try simp only [Act.put, List.setIfInBounds_toArray, List.set_cons_zero, List.set_cons_succ]
      refine take_val (i := 22) rfl (by kernel_rfl) (by kernel_rfl) (by kernel_rfl) (fun _ _ _ h => h) rfl (fun w hSw => by (try dsimp only at hSw); go_simp; try with_reducible rfl) hS ?_; try simp only [Act.put, List.setIfInBounds_toArray, List.set_cons_zero, List.set_cons_succ]
      refine wpAnyH_done (by kernel_rfl) ?_ _
      clear hS hcv9
      go_upto_region 13 with (fail)
      have HTW : Hid (TellW w w4.heap.size w7.heap.size A6 k6 c6 g8 nz c8 w9) := by
        refine ⟨⟨body.map byteV, ?_, each_bytes _⟩, ⟨Z.map byteV, ?_, each_bytes _⟩, low_trans HL8.out HB9.out⟩
        · rw [HK6.out]
          exact ownsRow_kept (ownsRow_kept (ownsRow_kept HOW6.out HB7.out) HB8.out) HB9.out
        · exact ownsRow_kept HOW8.out HB9.out
      have HGE : Hid (w.heap.size ≤ w4.heap.size ∧ w.heap.size ≤ w7.heap.size) := ⟨HL4.out.size, HL7.out.size⟩
      have HG6 : Hid (∀ x, A6 = some x → x.block < w7.heap.size) := fun x hx => by
        rcases HOW6.out.2 with ⟨e1, _⟩ | ⟨q, cap, cur, e1, _, hq, _⟩
        · injection e1 with e1; rw [e1] at hx; cases hx
        · injection e1 with e1
          rw [e1] at hx
          injection hx with hx
          subst hx
          have h1 := (Array.getElem?_eq_some_iff.1 hq).1
          exact Nat.lt_of_lt_of_le h1 HB7.out.size
      have hk6 : k6 ≤ 3000 := by have := HBL.out; have := HK6.out; omega
      have HA6 : Hid (0 < k6 → ∃ g6, A6 = some ⟨g6, 0, none⟩) := fun h => by
        obtain ⟨xs, hx, _⟩ := HTW.out.c
        obtain ⟨g, c, e⟩ := own_there hx h
        injection e with e
        exact ⟨g, e⟩
      generalize w4.heap.size = B6 at *
      generalize w7.heap.size = B8 at *
      clear HS HRS HU HRU HDEC HBY6 HB6 HL6 HBL HK6 HBY7 HB7 HL7 HZ HNZ HBY8 HB8 HOW6 HOW8 HL2 HL4 HB9 HSW HS1 HRE
      go_wp2_with fail
      go_loopw [94] (fun i wr => ∃ k : Nat, k ≤ k6 ∧ i = .int .i64 (k : Int) ∧ Hid (TellW w B6 B8 A6 k6 c6 g8 nz c8 wr)) (fun i _ => k6 - (intOf i).toNat)
      case atStart => exact ⟨0, Nat.zero_le _, rfl, HTW⟩
      case round =>
        obtain ⟨k, hk, rfl, HT⟩ := hrel
        by_cases hlt : k < k6
        · obtain ⟨g6, rfl⟩ := HA6.out (by omega)
          obtain ⟨z, hz0, hz1, cz, fz⟩ := HT.out.cellc hlt
          have hk0 : (0 : Int) ≤ (k : Int) := by omega
          have hkl : (k : Int) < (k6 : Int) := by omega
          go_wp2
          exact ⟨⟨k + 1, hlt, by push_cast; rfl, Lib.hid (HT.out.putc HGE.out.1 (HG6.out _ rfl) k _ (by omega) (by omega))⟩, by simp [intOf]; omega⟩
        · obtain rfl : k = k6 := by omega
          have hkn : ¬ (k : Int) < (k : Int) := by omega
          have HTE := Lib.hid (⟨HT.out.e, HT.out.low⟩ : (∃ zs, wr.ownsRow B8 5 1 (.slice (some ⟨g8, 0, none⟩) nz c8) nz zs ∧ EachU8 zs) ∧ Below w.heap.size w wr)
          clear HT HTW HA6 HG6
          go_wp2_with fail
          go_loopw [106] (fun i wr => ∃ k : Nat, k ≤ nz ∧ i = .int .i64 (k : Int) ∧ Hid ((∃ zs, wr.ownsRow B8 5 1 (.slice (some ⟨g8, 0, none⟩) nz c8) nz zs ∧ EachU8 zs) ∧ Below w.heap.size w wr)) (fun i _ => nz - (intOf i).toNat)
          case atStart => exact ⟨0, Nat.zero_le _, rfl, HTE⟩
          case round =>
            clear HTE
            obtain ⟨j, hj, rfl, HT⟩ := hrel
            by_cases hlt : j < nz
            · obtain ⟨⟨zs, hz, hze⟩, hlow⟩ := HT.out
              obtain ⟨z, hz0, hz1, cz, fz⟩ := row_cell hz hze hlt
              have HZ2 := Lib.hid (⟨⟨_, own_put hz j (.int .u8 ((z + 1) % 256)), each_set hze j _ (by omega) (by omega)⟩, hlow.setCell (p := ⟨g8, j, none⟩) (Nat.le_trans HGE.out.2 (own_lt hz).1) _⟩ : (∃ zs, (wr.setCell ⟨g8, j, none⟩ (.int .u8 ((z + 1) % 256))).ownsRow B8 5 1 (.slice (some ⟨g8, 0, none⟩) nz c8) nz zs ∧ EachU8 zs) ∧ Below w.heap.size w (wr.setCell ⟨g8, j, none⟩ (.int .u8 ((z + 1) % 256))))
              clear hz hze hlow HT
              have hk0 : (0 : Int) ≤ (j : Int) := by omega
              have hkl : (j : Int) < (nz : Int) := by omega
              go_wp2
              exact ⟨⟨j + 1, hlt, by push_cast; rfl, HZ2⟩, by simp [intOf]; omega⟩
            · obtain rfl : j = nz := by omega
              have hjn : ¬ (j : Int) < (j : Int) := by omega
              have HLW := Lib.hid HT.out.2
              clear HT
              have hcv := HCB.out wr HLW.out
              have HA := Lib.hid (HAW.out wr HLW.out)
              go_wp2_with (go_at_call 4; refine HA.out.mono ?_; rintro e w10 ⟨rfl, hb10⟩; have HL10 := Lib.hid (low_trans HLW.out hb10); clear hb10)
              go_ret
              exact ⟨rfl, HL10.out⟩
    · have h1' : (3000 : Int) < (n1 : Int) := by omega
      have HA := Lib.hid (HAW.out w (Below.refl _ _))
      clear hb1 hmx hn1 hg0 hS0
      go_enter Tryd.func3, Tryd.ntmps3
      go_wp2_with (go_at_call 4; refine HA.out.mono ?_; rintro e w9 ⟨rfl, hb9⟩; have HL9 := Lib.hid hb9; clear hb9)
      go_ret
      exact ⟨rfl, HL9.out⟩
  · have h0' : (3000 : Int) < (S0.size : Int) := by omega
    have HA := Lib.hid (HAW.out w (Below.refl _ _))
    clear hb1 hmx hn1 hg0 hS0
    go_enter Tryd.func3, Tryd.ntmps3
    go_wp2_with (go_at_call 4; refine HA.out.mono ?_; rintro e w9 ⟨rfl, hb9⟩; have HL9 := Lib.hid hb9; clear hb9)
    go_ret
    exact ⟨rfl, HL9.out⟩
end Go.Proofs.YtlpplmcploddaaaDoor
