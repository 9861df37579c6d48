/-
  The contract of classes.First. Conditions: 256 bytes, a class's number.
-/
import Derived.Test.YtlaccbkhlkomhaaClC
namespace Go.Proofs.Ytlaccbkhlkomhaa
open Go.RowKit

theorem cl_occurs : ∀ (n : Nat) (l : List UInt8) (g : Nat), l.length = n → clGo l 0 = some g → ∀ c, c < g → ∃ k, ∃ h : k < l.length, (l[k]).toNat = c := by
  intro n
  induction n with
  | zero =>
    intro l g hl h c hc
    have : l = [] := List.eq_nil_of_length_eq_zero hl
    subst this
    simp only [clGo, Option.some.injEq] at h
    omega
  | succ n ih =>
    intro l g hl h c hc
    obtain ⟨r, x, rfl⟩ : ∃ r x, l = r ++ [x] := ⟨l.dropLast, l.getLast (fun e => by rw [e] at hl; simp at hl), (List.dropLast_concat_getLast _).symm⟩
    rw [clGo_snoc] at h
    have hr : r.length = n := by simpa using hl
    cases hg : clGo r 0 with
    | none => rw [hg] at h; cases h
    | some g' =>
      rw [hg] at h
      simp only at h
      have old : c < g' → ∃ k, ∃ h : k < (r ++ [x]).length, ((r ++ [x])[k]).toNat = c := fun hcg => by
        obtain ⟨k, hk, he⟩ := ih r g' hr hg c hcg
        exact ⟨k, by simp; omega, by rw [List.getElem_append_left hk]; exact he⟩
      split at h
      · cases h
      · injection h with h
        split at h
        · by_cases hcg : c < g'
          · exact old hcg
          · exact ⟨r.length, by simp, by rw [List.getElem_append_right (Nat.le_refl _)]; simp; omega⟩
        · exact old (by omega)
theorem clRight_many {of : List UInt8} {many : Int} (h : clRightB of many = true) : 0 ≤ many ∧ many ≤ of.length ∧ ∀ c : Nat, (c : Int) < many → ∃ k, ∃ h : k < of.length, (of[k]).toNat = c := by
  unfold clRightB at h
  cases hg : clGo of 0 with
  | none => rw [hg] at h; cases h
  | some g =>
    rw [hg] at h
    have he : (g : Int) = many := by simpa using h
    have hle := clGo_le of 0 g hg
    exact ⟨by omega, by omega, fun c hc => cl_occurs _ of g rfl hg c (by omega)⟩
theorem idxOf_is {of : List UInt8} {c : Nat} (h : ∃ k, ∃ h : k < of.length, (of[k]).toNat = c) : ∃ k : Nat, idxOf c of = (k : Int) ∧ ∃ h : k < of.length, (of[k]).toNat = c ∧ ∀ x (hx : x < k), (of[x]'(by omega)).toNat ≠ c := by
  cases hf : of.findIdx? (fun x => x.toNat == c) with
  | none =>
    obtain ⟨k, hk, he⟩ := h
    rw [List.findIdx?_eq_none_iff] at hf
    have := hf _ (List.getElem_mem hk)
    simp [he] at this
  | some k =>
    have h1 := hf
    rw [List.findIdx?_eq_some_iff_getElem] at h1
    obtain ⟨hk, he, hn⟩ := h1
    refine ⟨k, by unfold idxOf; rw [hf], hk, by simpa using he, fun x hx => by simpa using hn x hx⟩
def firstV (of : List UInt8) (many cl : Int) : Value := if clRightB of many = true ∧ 0 ≤ cl ∧ cl < many then .tuple #[.int .u8 (idxOf cl.toNat of), .bool true] else .tuple #[.int .u8 0, .bool false]
attribute [local go_sem ↓] loadCl_eq
set_option maxRecDepth 100000 in
set_option maxHeartbeats 4000000 in
theorem first_any (of : List UInt8) (many cl : Int) (w : World) (ho : of.length = 256) :
    Calls Try.prog 12 #[.agg (clCells of many).toArray, .int .i64 cl] w fun e w' => e = .returned (firstV of many cl) ∧ Below w.heap.size w w' := by
  obtain ⟨cs, hcs⟩ : ∃ cs, cs = (clCells of many).toArray := ⟨_, rfl⟩
  have HRT : Hid (∀ w, Calls Try.prog 14 #[.agg cs] w fun e w' => e = .returned (.bool (clRightB of many)) ∧ Below w.heap.size w w') := fun w => by rw [hcs]; exact clRight_any of many w ho
  have HLD : Hid (∀ W B, Blk W B 25 cs → (LoadCl (.pointer (some ⟨B, 0, none⟩))).run Try.prog W = .ok (.agg cs) W) := fun W B hb => by rw [hcs] at hb ⊢; exact loadCl_run ho hb
  have HMC : Hid (cs[256]? = some (.int .i64 many)) := by show _ = _; rw [hcs, List.getElem?_toArray]; exact clCells_many of many ho
  have HAT : Hid (∀ k (h : k < of.length), cs[k]? = some (.int .u8 (of[k].toNat : Int))) := fun k h => by rw [hcs, List.getElem?_toArray]; exact clCells_at of many k h
  have HF : Hid (firstV of many cl = if clRightB of many = true ∧ 0 ≤ cl ∧ cl < many then .tuple #[.int .u8 (idxOf cl.toNat of), .bool true] else .tuple #[.int .u8 0, .bool false]) := show _ = _ from rfl
  have HCR : Hid (clRightB of many = true → 0 ≤ many ∧ many ≤ 256 ∧ ∀ c : Nat, (c : Int) < many → ∃ k, ∃ h : k < of.length, (of[k]).toNat = c) := fun h => by
    have h2 := clRight_many h
    exact ⟨h2.1, by have := h2.2.1; omega, h2.2.2⟩
  have HB0 : Hid (Blk (w.alloc (.cells cs 25)) w.heap.size 25 cs) := Blk.new _ _ _
  have HL0 : Hid (Below w.heap.size w (w.alloc (.cells cs 25))) := (Below.refl _ _).alloc (Nat.le_refl _) _
  rw [← hcs]
  clear hcs
  generalize clRightB of many = A at *
  have l0 := HLD.out _ _ HB0.out
  have HO := Lib.hid ho
  clear ho
  generalize firstV of many cl = R at *
  go_enter Try.func12, Try.ntmps12
  go_wp2_with (go_at_call 14; refine (HRT.out _).mono ?_)
  rintro e w5 ⟨rfl, hb5⟩
  have h5 := HB0.out.below hb5 HB0.out.lt
  have m5 : w5.cell? ⟨w.heap.size, 256, none⟩ = some (.int .i64 many) := (h5.cell 256).trans HMC.out
  have HL5 : Hid (Below w.heap.size w w5) := low_trans HL0.out hb5
  have H5 := Lib.hid h5
  clear l0 hb5 h5 HRT
  cases A with
  | false =>
    have HR : Hid (R = .tuple #[.int .u8 0, .bool false]) := by show _ = _; rw [HF.out, if_neg (fun h => by cases h.1)]
    go_wp2
    refine bodyPost_ret (results_tmp2 rfl _ _ _) rfl ?_
    exact ⟨by rw [HR.out]; rfl, HL5.out⟩
  | true =>
    by_cases h0 : cl < 0
    · have HR : Hid (R = .tuple #[.int .u8 0, .bool false]) := by show _ = _; rw [HF.out, if_neg (fun h => by omega)]
      go_wp2
      refine bodyPost_ret (results_tmp2 rfl _ _ _) rfl ?_
      exact ⟨by rw [HR.out]; rfl, HL5.out⟩
    · by_cases h1 : many ≤ cl
      · have HR : Hid (R = .tuple #[.int .u8 0, .bool false]) := by show _ = _; rw [HF.out, if_neg (fun h => by omega)]
        have h0' : (0 : Int) ≤ cl := by omega
        go_wp2
        refine bodyPost_ret (results_tmp2 rfl _ _ _) rfl ?_
        exact ⟨by rw [HR.out]; rfl, HL5.out⟩
      · obtain ⟨hm0, hm1, hoc⟩ := HCR.out rfl
        obtain ⟨c, rfl⟩ : ∃ c : Nat, cl = (c : Int) := ⟨cl.toNat, by omega⟩
        obtain ⟨k, hk, hko, -⟩ := idxOf_is (hoc c (by omega))
        have HR : Hid (R = .tuple #[.int .u8 (k : Int), .bool true]) := by show _ = _; rw [HF.out, if_pos ⟨rfl, by omega, by omega⟩, Int.toNat_natCast, hk]
        have hc256 : c < 256 := by omega
        have hk256 : k < 256 := by have := HO.out; omega
        have HIX : Hid (Calls Try.prog 32 #[.slice (some ⟨w.heap.size, 0, none⟩) 256 256, .int .u8 (c : Int)] w5 fun e w' => e = .returned (.int .i64 (k : Int)) ∧ w5 = w') := by
          have := index_any w.heap.size 256 of c w5 HO.out hc256 (fun k h => (H5.out.cell k).trans (HAT.out k h))
          rw [hk] at this
          exact this
        have h1' : (c : Int) < many := by omega
        clear hoc hk hko
        go_wp2_with (go_at_call 32; refine HIX.out.mono ?_)
        rintro e w' ⟨rfl, rfl⟩
        go_wp2
        refine bodyPost_ret (results_tmp2 rfl _ _ _) rfl ?_
        exact ⟨by rw [HR.out]; rfl, HL5.out⟩
end Go.Proofs.Ytlaccbkhlkomhaa
