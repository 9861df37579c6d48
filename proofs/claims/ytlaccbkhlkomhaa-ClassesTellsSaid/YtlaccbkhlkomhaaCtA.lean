/-
  The contract of frankingref06.apart: does any set tell two bytes apart? Conditions: the sets lie in memory; bytes.
-/
import Derived.Test.YtlaccbkhlkomhaaOrP
namespace Go.Proofs.Ytlaccbkhlkomhaa
open Go.RowKit

set_option maxRecDepth 100000 in
set_option maxHeartbeats 4000000 in
theorem apart_any (p : Option Addr) (c : Nat) (V : List St) (x y : Nat) (hx : x < 256) (hy : y < 256) (w : World) (hok : ∀ s ∈ V, s.ok) (hrow : RowAt w p (setCells V)) :
    Calls Try.prog 31 #[.slice p V.length c, .int .i64 (x : Int), .int .i64 (y : Int)] w fun e w' => e = .returned (.bool (!agB x y V)) ∧ Below w.heap.size w w' := by
  have HROW := Lib.hid hrow
  have HOK := Lib.hid hok
  have hml := hrow.len
  rw [setCells_len] at hml
  unfold maxLen at hml
  obtain ⟨n, hn⟩ : ∃ n, n = V.length := ⟨_, rfl⟩
  have HN := Lib.hid hn
  rw [← hn] at hml ⊢
  have HTK : Hid (∀ (j : Nat) (hj : j < V.length), agB x y (V.take (j + 1)) = (agB x y (V.take j) && (inS V[j] x == inS V[j] y))) := fun j hj => by rw [List.take_succ_eq_append_getElem hj, agB_app, agB_one]
  have HNO : Hid (∀ j, agB x y (V.take j) = false → agB x y V = false) := fun j h => by
    have := List.take_append_drop j V
    rw [← this, agB_app, h]
    rfl
  have HALL : Hid (agB x y (V.take n) = agB x y V) := by show _ = _; rw [hn, List.take_length]
  clear hn hrow hok
  go_enter Try.func31, Try.ntmps31
  go_wp2
  go_loopw [7] (fun i wr => ∃ j : Nat, j ≤ n ∧ i = .int .i64 j ∧ Hid (agB x y (V.take j) = true) ∧ Hid (Below w.heap.size w wr)) (fun i _ => n - (intOf i).toNat)
  case atStart => exact ⟨0, Nat.zero_le _, rfl, by show _ = _; rfl, Below.refl _ _⟩
  case round =>
    obtain ⟨j, hj, rfl, HA, HB⟩ := hrel
    by_cases hlt : j < n
    · have hlt' : (j : Int) < n := by omega
      have h0' : (0 : Int) ≤ j := by omega
      have hju : j < V.length := by rw [← HN.out]; exact hlt
      obtain ⟨b, off, rfl, hbl, e0, e1, e2, e3⟩ := setCells_row HROW.out hju
      obtain ⟨s, hs⟩ : ∃ s, s = V[j]'hju := ⟨_, rfl⟩
      have hs2 := HTK.out j hju
      rw [← hs] at e0 e1 e2 e3 hs2
      have hso : s.ok := HOK.out s (by rw [hs]; exact List.getElem_mem _)
      obtain ⟨ix, hix⟩ : ∃ i, i = inS s x := ⟨_, rfl⟩
      obtain ⟨iy, hiy⟩ : ∃ i, i = inS s y := ⟨_, rfl⟩
      have HIX : Hid (∀ W, Calls Try.prog 34 #[.agg #[.int .u64 (s.s0 : Int), .int .u64 (s.s1 : Int), .int .u64 (s.s2 : Int), .int .u64 (s.s3 : Int)], .int .i64 (x : Int)] W fun e w' => e = .returned (.bool ix) ∧ Below W.heap.size W w') := fun W => by rw [hix]; exact rIn_any s x hx hso W
      have HIY : Hid (∀ W, Calls Try.prog 34 #[.agg #[.int .u64 (s.s0 : Int), .int .u64 (s.s1 : Int), .int .u64 (s.s2 : Int), .int .u64 (s.s3 : Int)], .int .i64 (y : Int)] W fun e w' => e = .returned (.bool iy) ∧ Below W.heap.size W w') := fun W => by rw [hiy]; exact rIn_any s y hy hso W
      rw [← hix, ← hiy] at hs2
      have HS2 := Lib.hid hs2
      have HSW : Hid (∀ W, Below w.heap.size w W → (Below w.heap.size w W ∧ W.cell? ⟨b, off + j * 4, none⟩ = some (.int .u64 (s.s0 : Int)) ∧ W.cell? ⟨b, off + j * 4 + 1, none⟩ = some (.int .u64 (s.s1 : Int)) ∧ W.cell? ⟨b, off + j * 4 + 2, none⟩ = some (.int .u64 (s.s2 : Int)) ∧ W.cell? ⟨b, off + j * 4 + 3, none⟩ = some (.int .u64 (s.s3 : Int)))) := fun W hW =>
        ⟨hW, (hW.cell (p := ⟨b, _, none⟩) hbl).trans e0, (hW.cell (p := ⟨b, _, none⟩) hbl).trans e1, (hW.cell (p := ⟨b, _, none⟩) hbl).trans e2, (hW.cell (p := ⟨b, _, none⟩) hbl).trans e3⟩
      clear hs hs2 hso hix hiy hbl e0 e1 e2 e3 hju
      have HS1 := Lib.hid (HSW.out _ HB.out.drew)
      go_wp2
      go_region_held3 (fun W => Below w.heap.size w W ∧ W.cell? ⟨b, off + j * 4, none⟩ = some (.int .u64 (s.s0 : Int)) ∧ W.cell? ⟨b, off + j * 4 + 1, none⟩ = some (.int .u64 (s.s1 : Int)) ∧ W.cell? ⟨b, off + j * 4 + 2, none⟩ = some (.int .u64 (s.s2 : Int)) ∧ W.cell? ⟨b, off + j * 4 + 3, none⟩ = some (.int .u64 (s.s3 : Int)))
        (first | (with_reducible exact HS1.out) | (with_reducible exact HS3.out) | (with_reducible exact HS4.out))
        ((go_at_call 34; first | (with_reducible refine (HIX.out wr.drew).mono ?_; rintro e w8 ⟨rfl, hb8⟩; have HS3 := Lib.hid (HSW.out _ (low0 HS1.out.1 hb8 (Nat.le_refl _))); clear hb8) | (refine (HIY.out _).mono ?_; rintro e w9 ⟨rfl, hb9⟩; have HS4 := Lib.hid (HSW.out _ (low0 HS3.out.1 hb9 (Nat.le_refl _))); clear hb9)))
      cases hne : (ix == iy) with
      | true =>
        have hne2 : (ix != iy) = false := by rw [bne, hne]; rfl
        have HE : Hid (agB x y (V.take (j + 1)) = true) := by show _ = _; rw [HS2.out, HA.out, hne]; rfl
        clear hne
        go_wp2
        go_roundw
        case rel => exact ⟨j + 1, by omega, by go_num, HE, HS4.out.1⟩
        case measure => simp [intOf]; omega
      | false =>
        have hne2 : (ix != iy) = true := by rw [bne, hne]; rfl
        have HE : Hid (agB x y V = false) := HNO.out (j + 1) (by rw [HS2.out, HA.out, hne]; rfl)
        clear hne
        go_wp2
        go_ret
        exact ⟨ret_bool (by rw [HE.out]; rfl), HS4.out.1⟩
    · obtain rfl : j = n := by omega
      have HE : Hid (agB x y V = true) := by show _ = _; rw [← HALL.out]; exact HA.out
      go_wp2
      go_ret
      exact ⟨ret_bool (by rw [HE.out]; rfl), HB.out⟩
end Go.Proofs.Ytlaccbkhlkomhaa
