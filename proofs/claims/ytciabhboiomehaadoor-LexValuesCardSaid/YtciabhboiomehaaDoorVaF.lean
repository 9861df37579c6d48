/-
  internal/strconv's formatBits at base 16 and 2, for a byte: its digits. Conditions: the table of math/bits as its text lays it.
-/
import Derived.Test.YtciabhboiomehaaDoorProg
import Derived.Test.YtciabhboiomehaaDoorVaD
import Derived.WalkKit
import Derived.BigCall
import Derived.BigGuard
import Derived.IntWalk
import Derived.Lib.Hide
import Derived.Lib.ItoaMem
import Derived.Laws.Bits64b
import Derived.Laws.IdiomStrings
namespace Go.Proofs.YtciabhboiomehaaDoor
open Go.RowKit

theorem two_any (n : Int) (hn : n = 16 ∨ n = 2) (w : World) : Calls Tryd.prog 54 #[.int .i64 n] w fun e w' => e = .returned (.bool true) ∧ w = w' := by
  rcases hn with rfl | rfl
  all_goals
    go_enter Tryd.func54, Tryd.ntmps54
    go_wp2
    go_ret
    exact ⟨rfl, rfl⟩
theorem tz_any (n k : Int) (idx : Nat) (hn0 : (n == 0) = false) (w : World) (key : IntKind.u64.wrap (bits BinOp.and IntKind.u64 n (IntKind.u64.wrap (-n)) * 285870213051353865) / 288230376151711744 = (idx : Int)) (hi : idx < 64) (hk0 : 0 ≤ k) (hk : k < 64) (hc : w.cell? ⟨6, idx, none⟩ = some (.int .u8 k)) :
    Calls Tryd.prog 79 #[.int .u64 n] w fun e w' => e = .returned (.int .i64 k) ∧ w = w' := by
  go_enter Tryd.func79, Tryd.ntmps79
  go_wp2_with (simp only [key])
  go_ret
  exact ⟨rfl, rfl⟩
/-- the two entries of the table that are asked -/
def TzAt (w : World) : Prop := w.cell? ⟨6, 15, none⟩ = some (.int .u8 4) ∧ w.cell? ⟨6, 1, none⟩ = some (.int .u8 1)
theorem tz16 (w : World) (h : TzAt w) : Calls Tryd.prog 79 #[.int .u64 16] w fun e w' => e = .returned (.int .i64 4) ∧ w = w' :=
  tz_any 16 4 15 rfl w (by decide +kernel) (by decide) (by decide) (by decide) h.1
theorem tz2 (w : World) (h : TzAt w) : Calls Tryd.prog 79 #[.int .u64 2] w fun e w' => e = .returned (.int .i64 1) ∧ w = w' :=
  tz_any 2 1 1 rfl w (by decide +kernel) (by decide) (by decide) (by decide) h.2
theorem tzu16 (w : World) (h : TzAt w) : Calls Tryd.prog 55 #[.int .u64 16] w fun e w' => e = .returned (.int .i64 4) ∧ w = w' := by
  go_enter Tryd.func55, Tryd.ntmps55
  go_wp2_with (go_at_call 79; refine (tz16 _ h).mono ?_; rintro e w' ⟨rfl, rfl⟩)
  go_ret
  exact ⟨rfl, rfl⟩
theorem tzu2 (w : World) (h : TzAt w) : Calls Tryd.prog 55 #[.int .u64 2] w fun e w' => e = .returned (.int .i64 1) ∧ w = w' := by
  go_enter Tryd.func55, Tryd.ntmps55
  go_wp2_with (go_at_call 79; refine (tz2 _ h).mono ?_; rintro e w' ⟨rfl, rfl⟩)
  go_ret
  exact ⟨rfl, rfl⟩
theorem TzAt.alloc {w : World} (h : TzAt w) (hz : 6 < w.heap.size) (o : Obj) : TzAt (w.alloc o) :=
  ⟨(World.cell?_alloc_lt w o ⟨_, 15, none⟩ hz).trans h.1, (World.cell?_alloc_lt w o ⟨_, 1, none⟩ hz).trans h.2⟩

/-! ### the loop -/
def zeros65 : Array Value := Array.replicate 65 (.int .u8 0)
structure Tail (cs : Array Value) (i : Nat) (T : List UInt8) : Prop where
  size : cs.size = 65
  len : i + T.length = 65
  cells : ∀ j, (h : j < T.length) → cs[i + j]? = some (.int .u8 ((T[j]'h).toNat : Int))
theorem Tail.start : Tail zeros65 65 [] := ⟨by simp [zeros65], rfl, fun j h => absurd h (by simp)⟩
theorem Tail.put {cs : Array Value} {i : Nat} {T : List UInt8} (h : Tail cs (i + 1) T) (c : UInt8) (v : Value) (hv : v = .int .u8 (c.toNat : Int)) : Tail (cs.setIfInBounds i v) i (c :: T) := by
  refine ⟨by simp [h.size], by have := h.len; simp; omega, fun j hj => ?_⟩
  cases j with
  | zero => rw [Nat.add_zero, Array.getElem?_setIfInBounds_self_of_lt (by have := h.size; have := h.len; omega), hv]; rfl
  | succ j =>
    rw [Array.getElem?_setIfInBounds_ne (by omega), show i + (j + 1) = i + 1 + j from by omega, h.cells j (by simpa using hj)]
    rfl
theorem Tail.at_ {cs : Array Value} {i : Nat} {T : List UInt8} (h : Tail cs (i + 1) T) : ∃ v, cs[i]? = some v := by
  have := h.size; have := h.len
  exact ⟨_, Array.getElem?_eq_getElem (by omega)⟩

theorem digC_at (d : Nat) (h : d < 16) (DG : ByteArray) (hd : DG.data.toList = [48, 49, 50, 51, 52, 53, 54, 55, 56, 57, 97, 98, 99, 100, 101, 102, 103, 104, 105, 106, 107, 108, 109, 110, 111, 112, 113, 114, 115, 116, 117, 118, 119, 120, 121, 122]) (hs : d < DG.size) : DG[d] = digC d := by
  have e : DG[d] = DG.data.toList.getD d 0 := by
    rw [List.getD_eq_getElem?_getD, List.getElem?_eq_getElem (by rw [Array.length_toList]; exact hs)]
    rfl
  rw [e, hd]
  have : ∀ d : Fin 16, ([48, 49, 50, 51, 52, 53, 54, 55, 56, 57, 97, 98, 99, 100, 101, 102, 103, 104, 105, 106, 107, 108, 109, 110, 111, 112, 113, 114, 115, 116, 117, 118, 119, 120, 121, 122] : List UInt8).getD d.val 0 = digC d.val := by decide
  exact this ⟨d, h⟩
theorem and15 (u : Nat) (h : u < 256) : bits BinOp.and IntKind.u64 (u : Int) 15 = ((u % 16 : Nat) : Int) := by
  have := bits_and_u64_nat u 15 (by omega) (by omega)
  rw [show ((15 : Nat) : Int) = 15 from rfl] at this
  rw [this, show 15 = 2 ^ 4 - 1 from rfl, Nat.and_two_pow_sub_one_eq_mod]
theorem and1 (u : Nat) (h : u < 256) : bits BinOp.and IntKind.u64 (u : Int) 1 = ((u % 2 : Nat) : Int) := by
  have := bits_and_u64_nat u 1 (by omega) (by omega)
  rw [show ((1 : Nat) : Int) = 1 from rfl] at this
  rw [this, show 1 = 2 ^ 1 - 1 from rfl, Nat.and_two_pow_sub_one_eq_mod]

set_option maxRecDepth 100000 in
set_option maxHeartbeats 4000000 in
theorem bits16 (b : Nat) (hb : b < 256) (w : World) (hT : TzAt w) (hz : 6 < w.heap.size) :
    Calls Tryd.prog 26 #[.slice none 0 0, .int .u64 b, .int .i64 16, .bool false, .bool false] w fun e w' => e = .returned (.tuple #[.slice none 0 0, .string ⟨(digsP 16 b).toArray⟩]) ∧ Below w.heap.size w w' := by
  go_enter Tryd.func26, Tryd.ntmps26
  go_name_bytes_deep 40 PM hPM
  clear hPM
  go_name_bytes_deep 30 DG hDG
  have hds : DG.size = 36 := by rw [← hDG]; rfl
  have HD : Hid (∀ d, (h : d < 16) → (hs : d < DG.size) → DG[d] = digC d) := fun d h hs => digC_at d h DG (by rw [← hDG]) hs
  clear hDG
  have hds1 : (36 : Int) ≤ (DG.size : Int) := by omega
  clear hds
  go_wp2_with (first | (go_at_call 54; refine (two_any 16 (by decide) _).mono ?_; rintro e w' ⟨rfl, rfl⟩) | (go_at_call 55; refine (tzu16 _ (hT.alloc hz _)).mono ?_; rintro e w' ⟨rfl, rfl⟩))
  go_loopw [1, 13] (fun vu vi wr => ∃ (f u i : Nat) (T : List UInt8) (cs : Array Value), vu = .int .u64 u ∧ vi = .int .i64 i ∧ f ≤ 7 ∧ Hid (i = 58 + f) ∧ u < 256 ∧ Hid (f = 0 → u < 16) ∧ Hid (digsP 16 b = digF 16 (f + 1) u ++ T) ∧ Hid (Tail cs i T) ∧ wr = w.alloc (.cells cs 88)) (fun vu _ _ => (intOf vu).toNat)
  case atStart => exact ⟨7, b, 65, [], _, rfl, rfl, by omega, rfl, hb, (show 7 = 0 → b < 16 from fun h => by omega), (show digsP 16 b = digF 16 8 b ++ [] from (List.append_nil _).symm), Tail.start, rfl⟩
  case round =>
    obtain ⟨f, u, i, T, cs, rfl, rfl, hf, HI, hu, HF, HP, HT, rfl⟩ := hrel
    obtain ⟨m, rfl⟩ : ∃ m, i = m + 1 := ⟨i - 1, by have := HI.out; omega⟩
    have hm : m < 65 := by have := HI.out; omega
    obtain ⟨v0, hv0⟩ := HT.out.at_
    have hcell : (w.alloc (.cells cs 88)).cell? ⟨w.heap.size, m, none⟩ = some v0 := by rw [World.cell?_alloc_new]; exact hv0
    by_cases hlt : u < 16
    · have hub : u < DG.size := by omega
      have HDU := Lib.hid (HD.out u hlt hub)
      have HT2 := Lib.hid (HT.out.put DG[u] _ rfl)
      have hlt' : ¬ (16 : Int) ≤ u := by omega
      have hal : Tryd.prog.arrayLen 88 = 65 := by kernel_rfl
      have hsl : ∀ W, (Instr.sliceAt 88 (.pointer (some ⟨w.heap.size, 0, none⟩)) (some (.int .i64 (m : Int))) none none).run Tryd.prog W = .ok (.slice (some ⟨w.heap.size, m, none⟩) (65 - m) (65 - m)) W := fun W => by
        rw [run_sliceAt_array_l W 88 ⟨w.heap.size, 0, none⟩ (by kernel_rfl) .i64 (m : Int) (by omega) (by rw [hal]; omega), hal]
        go_simp
        try omega
      have hcv : ∀ v, v = Value.int .u8 (DG[u].toNat : Int) → (convert 22 9 (.slice (some ⟨w.heap.size, m, none⟩) (65 - m) (65 - m))).run Tryd.prog (w.alloc (.cells (cs.setIfInBounds m v) 88)) = .ok (.string ⟨(DG[u] :: T).toArray⟩) (w.alloc (.cells (cs.setIfInBounds m v) 88)) := fun v hv => by
        subst hv
        have hl65 : 65 - m = (DG[u] :: T).length := by have := HT2.out.len; omega
        conv => lhs; rw [show (Value.slice (some ⟨w.heap.size, m, none⟩) (65 - m) (65 - m)) = Value.slice (some ⟨w.heap.size, m, none⟩) (DG[u] :: T).length (65 - m) from by rw [← hl65]]
        refine run_convert_bytes_back (P := Tryd.prog) _ 22 9 5 ⟨w.heap.size, m, none⟩ (65 - m) (DG[u] :: T) (by kernel_rfl) (by kernel_rfl) (by kernel_rfl) fun j hj => ?_
        rw [Lib.add_plain, World.cell?_alloc_new]
        exact HT2.out.cells j hj
      have hcv2 := hcv _ rfl
      clear hcv hal
      have HRES : Hid (digsP 16 b = DG[u] :: T) := by
        show _ = _
        rw [HP.out, digF_last hlt, HDU.out]
        rfl
      go_wp2
      go_ret2
      refine ⟨?_, (Below.refl _ _).alloc (Nat.le_refl _) _⟩
      rw [HRES.out]
      rfl
    · obtain ⟨d, hdd, hd, hdb⟩ : ∃ d, u % 16 = d ∧ d < 16 ∧ d < DG.size := ⟨_, rfl, Nat.mod_lt _ (by omega), by omega⟩
      obtain ⟨g, rfl⟩ : ∃ g, f = g + 1 := ⟨f - 1, by have := HF.out; omega⟩
      have hand := and15 u hu
      have HN := Lib.hid (digF_more (f := g + 1) hlt)
      rw [hdd] at hand HN
      have HH := Lib.hid (HD.out d hd hdb)
      have HT2 := Lib.hid (HT.out.put DG[d] _ rfl)
      have HP2 : Hid (digsP 16 b = digF 16 (g + 1) (u / 16) ++ DG[d] :: T) := by
        show _ = _
        rw [HP.out, HN.out, HH.out]
        simp
      have HI2 : Hid (m = 58 + g) := by show _ = _; have := HI.out; omega
      have HF2 : Hid (g = 0 → u / 16 < 16) := by show _ → _; intro _; omega
      clear hdd
      have hge : (16 : Int) ≤ u := by omega
      go_wp2
      go_roundw
      case rel => exact ⟨g, u / 16, m, DG[d] :: T, _, by go_num, rfl, by omega, HI2, by omega, HF2, HP2, HT2, rfl⟩
      case measure => simp [intOf]; omega
set_option maxRecDepth 100000 in
set_option maxHeartbeats 4000000 in
theorem bits2 (b : Nat) (hb : b < 256) (w : World) (hT : TzAt w) (hz : 6 < w.heap.size) :
    Calls Tryd.prog 26 #[.slice none 0 0, .int .u64 b, .int .i64 2, .bool false, .bool false] w fun e w' => e = .returned (.tuple #[.slice none 0 0, .string ⟨(digsP 2 b).toArray⟩]) ∧ Below w.heap.size w w' := by
  go_enter Tryd.func26, Tryd.ntmps26
  go_name_bytes_deep 40 PM hPM
  clear hPM
  go_name_bytes_deep 30 DG hDG
  have hds : DG.size = 36 := by rw [← hDG]; rfl
  have HD : Hid (∀ d, (h : d < 16) → (hs : d < DG.size) → DG[d] = digC d) := fun d h hs => digC_at d h DG (by rw [← hDG]) hs
  clear hDG
  have hds1 : (36 : Int) ≤ (DG.size : Int) := by omega
  clear hds
  go_wp2_with (first | (go_at_call 54; refine (two_any 2 (by decide) _).mono ?_; rintro e w' ⟨rfl, rfl⟩) | (go_at_call 55; refine (tzu2 _ (hT.alloc hz _)).mono ?_; rintro e w' ⟨rfl, rfl⟩))
  go_loopw [1, 13] (fun vu vi wr => ∃ (f u i : Nat) (T : List UInt8) (cs : Array Value), vu = .int .u64 u ∧ vi = .int .i64 i ∧ f ≤ 7 ∧ Hid (i = 58 + f) ∧ u < 256 ∧ Hid (u < 2 ^ (f + 1)) ∧ Hid (digsP 2 b = digF 2 (f + 1) u ++ T) ∧ Hid (Tail cs i T) ∧ wr = w.alloc (.cells cs 88)) (fun vu _ _ => (intOf vu).toNat)
  case atStart => exact ⟨7, b, 65, [], _, rfl, rfl, by omega, rfl, hb, (show b < 2 ^ (7 + 1) from hb), (show digsP 2 b = digF 2 8 b ++ [] from (List.append_nil _).symm), Tail.start, rfl⟩
  case round =>
    obtain ⟨f, u, i, T, cs, rfl, rfl, hf, HI, hu, HF, HP, HT, rfl⟩ := hrel
    obtain ⟨m, rfl⟩ : ∃ m, i = m + 1 := ⟨i - 1, by have := HI.out; omega⟩
    have hm : m < 65 := by have := HI.out; omega
    obtain ⟨v0, hv0⟩ := HT.out.at_
    have hcell : (w.alloc (.cells cs 88)).cell? ⟨w.heap.size, m, none⟩ = some v0 := by rw [World.cell?_alloc_new]; exact hv0
    by_cases hlt : u < 2
    · have hub : u < DG.size := by omega
      have HDU := Lib.hid (HD.out u (by omega) hub)
      have HT2 := Lib.hid (HT.out.put DG[u] _ rfl)
      have hlt' : ¬ (2 : Int) ≤ u := by omega
      have hal : Tryd.prog.arrayLen 88 = 65 := by kernel_rfl
      have hsl : ∀ W, (Instr.sliceAt 88 (.pointer (some ⟨w.heap.size, 0, none⟩)) (some (.int .i64 (m : Int))) none none).run Tryd.prog W = .ok (.slice (some ⟨w.heap.size, m, none⟩) (65 - m) (65 - m)) W := fun W => by
        rw [run_sliceAt_array_l W 88 ⟨w.heap.size, 0, none⟩ (by kernel_rfl) .i64 (m : Int) (by omega) (by rw [hal]; omega), hal]
        go_simp
        try omega
      have hcv : ∀ v, v = Value.int .u8 (DG[u].toNat : Int) → (convert 22 9 (.slice (some ⟨w.heap.size, m, none⟩) (65 - m) (65 - m))).run Tryd.prog (w.alloc (.cells (cs.setIfInBounds m v) 88)) = .ok (.string ⟨(DG[u] :: T).toArray⟩) (w.alloc (.cells (cs.setIfInBounds m v) 88)) := fun v hv => by
        subst hv
        have hl65 : 65 - m = (DG[u] :: T).length := by have := HT2.out.len; omega
        conv => lhs; rw [show (Value.slice (some ⟨w.heap.size, m, none⟩) (65 - m) (65 - m)) = Value.slice (some ⟨w.heap.size, m, none⟩) (DG[u] :: T).length (65 - m) from by rw [← hl65]]
        refine run_convert_bytes_back (P := Tryd.prog) _ 22 9 5 ⟨w.heap.size, m, none⟩ (65 - m) (DG[u] :: T) (by kernel_rfl) (by kernel_rfl) (by kernel_rfl) fun j hj => ?_
        rw [Lib.add_plain, World.cell?_alloc_new]
        exact HT2.out.cells j hj
      have hcv2 := hcv _ rfl
      clear hcv hal
      have HRES : Hid (digsP 2 b = DG[u] :: T) := by
        show _ = _
        rw [HP.out, digF_last hlt, HDU.out]
        rfl
      go_wp2
      go_ret2
      refine ⟨?_, (Below.refl _ _).alloc (Nat.le_refl _) _⟩
      rw [HRES.out]
      rfl
    · obtain ⟨d, hdd, hd, hdb⟩ : ∃ d, u % 2 = d ∧ d < 2 ∧ d < DG.size := ⟨_, rfl, Nat.mod_lt _ (by omega), by omega⟩
      have hf0 : f ≠ 0 := fun e => by have h0 := HF.out; rw [e] at h0; omega
      obtain ⟨g, rfl⟩ : ∃ g, f = g + 1 := ⟨f - 1, by omega⟩
      clear hf0
      have hand := and1 u hu
      have HN := Lib.hid (digF_more (f := g + 1) hlt)
      rw [hdd] at hand HN
      have HH := Lib.hid (HD.out d (by omega) hdb)
      have HT2 := Lib.hid (HT.out.put DG[d] _ rfl)
      have HP2 : Hid (digsP 2 b = digF 2 (g + 1) (u / 2) ++ DG[d] :: T) := by
        show _ = _
        rw [HP.out, HN.out, HH.out]
        simp
      have HI2 : Hid (m = 58 + g) := by show _ = _; have := HI.out; omega
      have HF2 : Hid (u / 2 < 2 ^ (g + 1)) := by
        show _ < _
        have h0 := HF.out
        rw [Nat.pow_succ] at h0
        omega
      clear hdd
      have hge : (2 : Int) ≤ u := by omega
      go_wp2
      go_roundw
      case rel => exact ⟨g, u / 2, m, DG[d] :: T, _, by go_num, rfl, by omega, HI2, by omega, HF2, HP2, HT2, rfl⟩
      case measure => simp [intOf]; omega
end Go.Proofs.YtciabhboiomehaaDoor
