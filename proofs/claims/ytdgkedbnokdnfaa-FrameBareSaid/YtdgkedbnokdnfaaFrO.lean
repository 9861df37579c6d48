/-
  The contracts of frame.New, frame.Rest, and of frankinglaw12's Same at equal lists. Conditions: lists of at most a hundred thousand lines, in memory.
-/
import Derived.Test.YtdgkedbnokdnfaaFrN
namespace Go.Proofs.Ytdgkedbnokdnfaa
open Go.RowKit

set_option maxRecDepth 100000 in
set_option maxHeartbeats 1000000 in
theorem new_yes (n : Nat) (h0 : 1 ≤ n) (h1 : n ≤ 2000) (w : World) :
    Calls Try.prog 15 #[.int .i64 (n : Int)] w fun e w' => e = .returned (.tuple #[.agg (frCells n [] false false), .int .i64 0]) ∧ Below w.heap.size w w' := by
  have hA := Lib.hid ((Below.refl w.heap.size w).alloc (Nat.le_refl _) (.cells #[.int .i64 (n : Int), .string ⟨#[]⟩, .bool false, .bool false] 26))
  have hB : Hid (Blk (w.alloc (.cells #[.int .i64 (n : Int), .string ⟨#[]⟩, .bool false, .bool false] 26)) w.heap.size 26 (frCells n [] false false)) := Blk.new _ _ _
  go_enter Try.func15, Try.ntmps15
  go_wp2
  refine bodyPost_ret (results_cell_tmp rfl _ _ w.heap.size 26 _ (0, 0) _ rfl hB.out Try.underlying26 rfl infoFr) rfl ?_
  exact ⟨rfl, hA.out⟩
set_option maxRecDepth 100000 in
set_option maxHeartbeats 1000000 in
theorem new_no (z : Int) (h : z < 1 ∨ 2000 < z) (w : World) :
    Calls Try.prog 15 #[.int .i64 z] w fun e w' => e = .returned (.tuple #[.agg (frCells 0 [] false false), .int .i64 2]) ∧ Below w.heap.size w w' := by
  have hA := Lib.hid ((Below.refl w.heap.size w).alloc (Nat.le_refl _) (.cells #[.int .i64 0, .string ⟨#[]⟩, .bool false, .bool false] 26))
  have hB : Hid (Blk (w.alloc (.cells #[.int .i64 0, .string ⟨#[]⟩, .bool false, .bool false] 26)) w.heap.size 26 (frCells 0 [] false false)) := Blk.new _ _ _
  go_enter Try.func15, Try.ntmps15
  rcases h with h | h
  · go_wp2
    refine bodyPost_ret (results_cell_tmp rfl _ _ w.heap.size 26 _ (0, 0) _ rfl hB.out Try.underlying26 rfl infoFr) rfl ?_
    exact ⟨rfl, hA.out⟩
  · have h0 : ¬ z < 1 := by omega
    go_wp2
    refine bodyPost_ret (results_cell_tmp rfl _ _ w.heap.size 26 _ (0, 0) _ rfl hB.out Try.underlying26 rfl infoFr) rfl ?_
    exact ⟨rfl, hA.out⟩
def restP (H : List UInt8) (cr : Bool) : List UInt8 := if cr = true then H ++ [13] else H
set_option maxRecDepth 100000 in
set_option maxHeartbeats 1000000 in
theorem rest_any (m : Int) (H : List UInt8) (over cr : Bool) (w : World) (hH : H.length ≤ 100000) :
    Calls Try.prog 12 #[.agg (frCells m H over cr)] w fun e w' => e = .returned (.string (bs (restP H cr))) ∧ Below w.heap.size w w' := by
  have hA := Lib.hid ((Below.refl w.heap.size w).alloc (Nat.le_refl _) (.cells (frCells m H over cr) 26))
  have hs : (bs H).size ≤ 100000 := hH
  unfold frCells at *
  have hc : bs H ++ (⟨#[13]⟩ : ByteArray) = bs (H ++ [13]) := by unfold bs; apply ByteArray.ext; simp
  cases cr with
  | true =>
    unfold restP
    rw [if_pos rfl, ← hc]
    generalize bs H = S at *
    clear hc
    go_enter Try.func12, Try.ntmps12
    go_wp2
    go_ret
    exact ⟨rfl, hA.out⟩
  | false =>
    unfold restP
    rw [if_neg (by simp)]
    generalize bs H = S at *
    clear hc
    go_enter Try.func12, Try.ntmps12
    go_wp2
    go_ret
    exact ⟨rfl, hA.out⟩
theorem line_at {W : World} {a : Option Addr} {ls : List LnP} (h : RowAt W a (linCells ls)) {k : Nat} (hk : k < ls.length) : ∃ g off, a = some ⟨g, off, none⟩ ∧ W.cell? ⟨g, off + k * 2, none⟩ = some (.string (bs ls[k].text)) ∧ W.cell? ⟨g, off + k * 2 + 1, none⟩ = some (.bool ls[k].long) := by
  obtain ⟨g, off, rfl, _, h3⟩ := h.row (by rw [linCells_len]; omega)
  have hc : ∀ (ls : List LnP) (k : Nat) (hk : k < ls.length), (linCells ls)[k * 2]? = some (.string (bs ls[k].text)) ∧ (linCells ls)[k * 2 + 1]? = some (.bool ls[k].long) := by
    intro ls
    induction ls with
    | nil => intro k hk; simp at hk
    | cons x r ih =>
      intro k hk
      cases k with
      | zero => exact ⟨rfl, rfl⟩
      | succ k =>
        have := ih k (by simpa using hk)
        rw [show (k + 1) * 2 = k * 2 + 2 by omega]
        exact this
  obtain ⟨c1, c2⟩ := hc ls k hk
  have l1 : k * 2 + 1 < (linCells ls).length := by rw [linCells_len]; omega
  refine ⟨g, off, rfl, ?_, ?_⟩
  · rw [h3 (k * 2) (by omega), ← c1]
    exact (List.getElem?_eq_getElem _).symm
  · rw [Nat.add_assoc, h3 (k * 2 + 1) l1, ← c2]
    exact (List.getElem?_eq_getElem _).symm
set_option maxRecDepth 100000 in
set_option maxHeartbeats 1000000 in
theorem same_eq (a b : Option Addr) (c d : Nat) (ls : List LnP) (w : World) (ha : RowAt w a (linCells ls)) (hb : RowAt w b (linCells ls)) (hn : ls.length ≤ 100000) :
    Calls Try.prog 9 #[.slice a ls.length c, .slice b ls.length d] w fun e w' => e = .returned (.bool true) ∧ ∃ m, w' = w.drewN m := by
  have HA := Lib.hid ha
  have HB := Lib.hid hb
  clear ha hb
  generalize hlen : ls.length = n at *
  have HL := Lib.hid hlen
  clear hlen
  go_enter Try.func9, Try.ntmps9
  go_wp2
  go_loopw [13] (fun i wr => ∃ k m : Nat, k ≤ n ∧ i = .int .i64 k ∧ wr = w.drewN m) (fun i _ => n - (intOf i).toNat)
  case atStart => exact ⟨0, 0, Nat.zero_le _, rfl, rfl⟩
  case round =>
    obtain ⟨k, m, hk, rfl, rfl⟩ := hrel
    by_cases hlt : k < n
    · obtain ⟨g, off, rfl, a0, a1⟩ := line_at HA.out (k := k) (by rw [HL.out]; exact hlt)
      obtain ⟨g', off', rfl, b0, b1⟩ := line_at HB.out (k := k) (by rw [HL.out]; exact hlt)
      have hlt' : (k : Int) < n := by omega
      have h0' : (0 : Int) ≤ k := by omega
      go_wp2
      go_quiet (fail)
      go_wp2
      go_roundw
      case rel => exact ⟨k + 1, _, by omega, by go_num, rfl⟩
      case measure => simp [intOf]; omega
    · go_wp2
      go_ret
      exact ⟨rfl, _, rfl⟩
end Go.Proofs.Ytdgkedbnokdnfaa
