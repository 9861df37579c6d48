/-
  The contract of frankinglaw06.Few. Conditions: the trees lie in memory.
-/
import Derived.Test.YtdckjjkaoecgaaaDoorRxN
import Derived.BigQuiet
namespace Go.Proofs.YtdckjjkaoecgaaaDoor
open Go.RowKit

def FewR (ls : List Ry) : Prop := ls.length ≤ 6 ∧ ∀ t ∈ ls, (preR t).length ≤ 200
set_option maxRecDepth 100000 in
set_option maxHeartbeats 1600000 in
theorem few6_any (a : Option Addr) (c : Nat) (ls : List Ry) (w : World) (h : RyIn w (· < w.heap.size) a c ls) :
    Calls Tryd.prog 8 #[.slice a ls.length c] w fun e w2 => (∃ b, e = .returned (.bool b) ∧ (b = true → FewR ls)) ∧ Below w.heap.size w w2 := by
  have HH := Lib.hid h
  have hm := h.len.1
  unfold maxLen at hm
  obtain ⟨n, hn⟩ : ∃ n, n = ls.length := ⟨_, rfl⟩
  have HN := Lib.hid hn
  rw [← hn] at hm ⊢
  clear h hn
  go_enter Tryd.func8, Tryd.ntmps8
  go_wp2
  go_loopw [7] (fun i wr => ∃ k : Nat, k ≤ n ∧ k ≤ 6 ∧ i = .int .i64 k ∧ Hid (∀ t ∈ ls.take k, (preR t).length ≤ 200) ∧ Below w.heap.size w wr) (fun i _ => n - (intOf i).toNat)
  case atStart => exact ⟨0, Nat.zero_le _, by omega, rfl, fun t ht => by simp at ht, Below.refl _ _⟩
  case round =>
    obtain ⟨k, hk, hk6, rfl, HA, hbel⟩ := hrel
    by_cases hlt : k < n
    · have hlt' : (k : Int) < n := by omega
      have h0' : (0 : Int) ≤ k := by omega
      obtain ⟨b, off, rfl, hbl, _, hxok, hxc, hxk⟩ := HH.out.at_ (k := k) (by rw [← HN.out]; exact hlt)
      obtain ⟨x, hx⟩ : ∃ x, x = ls[k]'(by rw [← HN.out]; exact hlt) := ⟨_, rfl⟩
      rw [← hx] at hxc hxk
      have hcw : ∀ o, wr.cell? ⟨b, o, none⟩ = w.cell? ⟨b, o, none⟩ := fun o => hbel.cell (p := ⟨b, o, none⟩) hbl
      have a0 := (hcw (off + k * 6 + 0)).trans (hxc 0 _ rfl)
      have a1 := (hcw (off + k * 6 + 1)).trans (hxc 1 _ rfl)
      have a2 := (hcw (off + k * 6 + 2)).trans (hxc 2 _ rfl)
      have a3 := (hcw (off + k * 6 + 3)).trans (hxc 3 _ rfl)
      have a4 := (hcw (off + k * 6 + 4)).trans (hxc 4 _ rfl)
      have a5 := (hcw (off + k * 6 + 5)).trans (hxc 5 _ rfl)
      rw [Nat.add_zero] at a0
      have HREC : Hid (∀ (W' : World), Below w.heap.size w W' → Calls Tryd.prog 26 #[.agg (ryCells x).toArray, .int .i64 200] W' fun e w2 => NodesR 200 (preR x).length e ∧ Below W'.heap.size W' w2) := fun W' hW' => reNodes_any x W' ((hxk.under hW').mono (fun b _ hb => Nat.lt_of_lt_of_le hb hW'.size)) 200 (by decide)
      have HBW : Hid (Below w.heap.size w (wr.alloc (.cells (ryCells x).toArray 46))) := hbel.alloc hbel.size _
      have HSP : Hid (∀ l, (preR x).length = l → l ≤ 200 → ∀ t ∈ ls.take (k + 1), (preR t).length ≤ 200) := fun l hl hl2 t ht => by
        rw [List.take_add_one, List.getElem?_eq_getElem (by rw [← HN.out]; exact hlt)] at ht
        rcases List.mem_append.1 ht with ht | ht
        · exact HA.out t ht
        · simp at ht
          rw [ht, ← hx, hl]
          exact hl2
      unfold ryCells at HREC HBW
      have HBEL := Lib.hid hbel
      clear hx hxc hxk hxok hbel hcw hbl
      generalize x.kids.length = xl at *
      by_cases h6 : k < 6
      · have h6' : (k : Int) < 6 := by omega
        have h6'' : ¬ (6 : Int) ≤ k := by omega
        have h6d : decide ((6 : Int) ≤ k) = false := by simp; omega
        go_wp2_with (go_at_call 26; refine (HREC.out _ HBW.out).mono ?_)
        rintro e w5 ⟨m2, rfl, hm3, hm4, hm5⟩ hb5
        have hb6 : Below w.heap.size w w5 := HBW.out.trans (hb5.mono (by have := HBW.out.size; simpa using this))
        have HM5 := Lib.hid hm5
        clear hm5
        by_cases hle : m2 ≤ 200
        · have hle' : ¬ (200 : Int) < m2 := by omega
          go_wp2
          go_roundw
          case rel => exact ⟨k + 1, by omega, by omega, by go_num, HSP.out m2 (HM5.out hle) hle, hb6⟩
          case measure => simp [intOf]; omega
        · have hle' : (200 : Int) < m2 := by omega
          go_wp2
          go_ret
          exact ⟨⟨false, rfl, fun h => by cases h⟩, hb6⟩
      · have h6'' : (6 : Int) ≤ k := by omega
        go_wp2
        go_ret
        exact ⟨⟨false, rfl, fun h => by cases h⟩, HBW.out⟩
    · obtain rfl : k = n := by omega
      go_wp2
      go_ret
      exact ⟨⟨true, rfl, fun _ => ⟨by rw [← HN.out]; exact hk6, fun t ht => HA.out t (by rw [HN.out, List.take_length]; exact ht)⟩⟩, hbel⟩
end Go.Proofs.YtdckjjkaoecgaaaDoor
