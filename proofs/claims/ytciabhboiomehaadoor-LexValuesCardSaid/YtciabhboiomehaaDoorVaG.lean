/-
  strconv.FormatUint of a byte at base 16, 10 and 2: its digits. Conditions: the tables of math/bits and of internal/strconv as their texts lay them.
-/
import Derived.Test.YtciabhboiomehaaDoorVaF
import Derived.Test.YtciabhboiomehaaDoorVaD
import Derived.Test.YtciabhboiomehaaDoorShelf
import Derived.Test.YtciabhboiomehaaDoorPiecesB
import Derived.Lib.AppendIntMem
namespace Go.Proofs.YtciabhboiomehaaDoor
open Go.RowKit

theorem dec_digs : ∀ b, b < 256 → Lib.decDigits b = digsP 10 b := by
  intro b h
  have h8 : digsP 10 b = if b < 10 then [digC b] else if b < 100 then [digC (b / 10), digC (b % 10)] else [digC (b / 10 / 10), digC (b / 10 % 10), digC (b % 10)] := by
    unfold digsP
    by_cases h1 : b < 10
    · rw [digF_last h1, if_pos h1]
    · rw [digF_more h1, if_neg h1]
      by_cases h2 : b / 10 < 10
      · rw [digF_last h2, if_pos (by omega)]; rfl
      · rw [digF_more h2, if_neg (by omega), digF_last (by omega)]; rfl
  have hd : ∀ k, k < 10 → UInt8.ofNat (48 + k) = digC k := fun k hk => by unfold digC; rw [if_pos hk]
  rw [h8]
  by_cases h1 : b < 10
  · rw [if_pos h1, Lib.decDigits, dif_pos h1, hd b h1]
  · rw [if_neg h1, Lib.decDigits, dif_neg h1]
    by_cases h2 : b < 100
    · rw [if_pos h2, Lib.decDigits, dif_pos (by omega), hd _ (by omega), hd _ (by omega)]; rfl
    · rw [if_neg h2, Lib.decDigits, dif_neg (by omega), Lib.decDigits, dif_pos (by omega), hd _ (by omega), hd _ (by omega), hd _ (by omega)]; rfl

theorem holds0 (w : World) : «Sort».Holds (fun (b : UInt8) => Value.int .u8 (b.toNat : Int)) (w.alloc (.cells Lib.zeros24 60)) w.heap.size 0 (Array.replicate 3 (0 : UInt8)) := fun j hj => by
  have hj' : j < 3 := by simpa using hj
  refine ⟨?_, World.frozen?_alloc_new _ _ _ _⟩
  rw [World.cell?_alloc_new, Lib.zeros24_at _ (by omega), getElem!_pos _ j hj]
  simp

set_option maxRecDepth 100000 in
set_option maxHeartbeats 4000000 in
theorem fmt10 (u : Nat) (hu : u < 256) (w : World) (htab : Lib.TabIs Tryd.prog w "internal/strconv.uint64pow10" .u64 Lib.pow10Tab) :
    Calls Tryd.prog 12 #[.int .u64 u, .int .i64 10] w fun e w' => e = .returned (.string ⟨(digsP 10 u).toArray⟩) ∧ Below w.heap.size w w' := by
  by_cases h100 : u < 100
  · go_enter Tryd.func12, Tryd.ntmps12
    go_wp2_with (go_at_call 23; refine (Tryd.internal_strconv_small u h100 _).mono ?_; rintro e w' ⟨rfl, rfl⟩)
    go_ret
    exact ⟨by rw [← dec_digs u hu]; rfl, Below.refl _ _⟩
  · have hu1 : 1 ≤ u := by omega
    have hu64 : u < 18446744073709551616 := by omega
    have hnd : Lib.nDigits u = 3 := by rw [Lib.nDigits_big (by omega), Lib.nDigits_big (by omega), Lib.nDigits_small (by omega)]
    have hge : (100 : Int) ≤ u := by omega
    have HH0 := Lib.hid (holds0 w)
    have hfmt := Tryd.internal_strconv_formatBase10 w.heap.size 0 24 u (Array.replicate 3 0) (w.alloc (.cells Lib.zeros24 60)) (holds0 w) (by rw [Array.size_replicate]; omega) hu64 (by rw [Array.size_replicate]; omega)
    rw [Array.size_replicate] at hfmt
    have hnum := Tryd.internal_strconv_numDigits u hu1 hu64 _ (Lib.tabIs_alloc htab (.cells Lib.zeros24 60))
    rw [hnd] at hnum
    have HDL := Lib.hid (show (Lib.decDigits u).length = 3 from by rw [Lib.decDigits_length, hnd])
    have HND := Lib.hid hnd
    clear hnd h100
    have hal : Tryd.prog.arrayLen 60 = 24 := by kernel_rfl
    have hsl : ∀ W, (Instr.sliceAt 60 (.pointer (some ⟨w.heap.size, 0, none⟩)) none (some (.int .i64 3)) none).run Tryd.prog W = .ok (.slice (some ⟨w.heap.size, 0, none⟩) 3 24) W := fun W => by
      rw [run_sliceAt_array_h W 60 ⟨w.heap.size, 0, none⟩ (by kernel_rfl) .i64 3 (by omega) (by rw [hal]; omega), hal]
      rfl
    clear hal
    go_enter Tryd.func12, Tryd.ntmps12
    go_wp2_with (go_at_call 24; refine hnum.mono ?_; rintro e w' ⟨rfl, rfl⟩)
    go_at_call 25
    refine hfmt.mono ?_
    rintro e w' ⟨rfl, k, v', dk, rfl, hF⟩
    have hcv : (convert 22 9 (.slice (some ⟨w.heap.size, 0, none⟩) 3 24)).run Tryd.prog ((«Sort».putRow (fun (b : UInt8) => Value.int .u8 (b.toNat : Int)) (w.alloc (.cells Lib.zeros24 60)) w.heap.size 0 dk).drewN k) = .ok (.string ⟨(Lib.decDigits u).toArray⟩) ((«Sort».putRow (fun (b : UInt8) => Value.int .u8 (b.toNat : Int)) (w.alloc (.cells Lib.zeros24 60)) w.heap.size 0 dk).drewN k) := by
      have hF' : Lib.FmtInv (Lib.nDigits u) u 0 v' dk := by rw [HND.out]; exact hF
      have h := run_convert_bytes_back (P := Tryd.prog) ((«Sort».putRow (fun (b : UInt8) => Value.int .u8 (b.toNat : Int)) (w.alloc (.cells Lib.zeros24 60)) w.heap.size 0 dk).drewN k) 22 9 5 ⟨w.heap.size, 0, none⟩ 24 (Lib.decDigits u) (by kernel_rfl) (by kernel_rfl) (by kernel_rfl) (fun j hj => by
        rw [Lib.row_is_numeral hF' j hj, Lib.add_plain, World.cell?_drewN]
        exact «Sort».cell?_putRow (fun (b : UInt8) => Value.int .u8 (b.toNat : Int)) _ w.heap.size 0 _ dk HH0.out (by rw [hF.size, Array.size_replicate]) j (by rw [hF.size]; rw [HDL.out] at hj; exact hj))
      rw [HDL.out] at h
      exact h
    go_wp2
    go_ret
    refine ⟨by rw [← dec_digs u hu]; rfl, ?_⟩
    obtain ⟨os, e⟩ := Lib.fin_at w (.cells Lib.zeros24 60) dk k 0
    rw [e]
    exact Lib.below_grow _ w (Nat.le_refl _) k os
theorem fmt_any (base : Nat) (hbase : base = 16 ∨ base = 10 ∨ base = 2) (u : Nat) (hu : u < 256) (w : World) (htab : Lib.TabIs Tryd.prog w "internal/strconv.uint64pow10" .u64 Lib.pow10Tab) (hT : TzAt w) (hz : 6 < w.heap.size) :
    Calls Tryd.prog 6 #[.int .u64 u, .int .i64 base] w fun e w' => e = .returned (.string (bs (digsP base u))) ∧ Below w.heap.size w w' := by
  have h16 : Calls Tryd.prog 12 #[.int .u64 u, .int .i64 16] w fun e w' => e = .returned (.string ⟨(digsP 16 u).toArray⟩) ∧ Below w.heap.size w w' := by
    go_enter Tryd.func12, Tryd.ntmps12
    go_wp2_with (go_at_call 26; refine (bits16 u hu _ hT hz).mono ?_; rintro e w' ⟨rfl, hb⟩)
    go_ret
    exact ⟨rfl, hb⟩
  have h2 : Calls Tryd.prog 12 #[.int .u64 u, .int .i64 2] w fun e w' => e = .returned (.string ⟨(digsP 2 u).toArray⟩) ∧ Below w.heap.size w w' := by
    go_enter Tryd.func12, Tryd.ntmps12
    go_wp2_with (go_at_call 26; refine (bits2 u hu _ hT hz).mono ?_; rintro e w' ⟨rfl, hb⟩)
    go_ret
    exact ⟨rfl, hb⟩
  have h10 := fmt10 u hu w htab
  have key : ∀ b : Int, ∀ l, Calls Tryd.prog 12 #[.int .u64 u, .int .i64 b] w (fun e w' => e = .returned (.string ⟨(l : List UInt8).toArray⟩) ∧ Below w.heap.size w w') → Calls Tryd.prog 6 #[.int .u64 u, .int .i64 b] w fun e w' => e = .returned (.string (bs l)) ∧ Below w.heap.size w w' := by
    intro b l h
    go_enter Tryd.func6, Tryd.ntmps6
    go_wp2_with (go_at_call 12; refine h.mono ?_; rintro e w' ⟨rfl, hb⟩)
    go_ret
    exact ⟨rfl, hb⟩
  rcases hbase with rfl | rfl | rfl
  · exact key 16 _ h16
  · exact key 10 _ h10
  · exact key 2 _ h2
end Go.Proofs.YtciabhboiomehaaDoor
