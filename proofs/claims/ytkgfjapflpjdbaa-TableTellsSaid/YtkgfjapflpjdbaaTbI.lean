/-
  The contracts of frankinglaw08.Few, frankinglaw10.Few, table.Step. Conditions: the table lies in memory; names within Go's own bounds.
-/
import Derived.Test.YtkgfjapflpjdbaaTbG
import Derived.IntWalk
namespace Go.Proofs.Ytkgfjapflpjdbaa
open Go.RowKit

theorem right_agg (t : Tab) (p : Lie) (X : Array Value) (hX : (tabCells t p).toArray = X) (w : World) (h : TabAt w t p) :
    Calls Try.prog 9 #[.agg X] w fun e w' => e = .returned (.bool (tabRightB t)) ∧ Below w.heap.size w w' := by
  have := right_any t p w h
  unfold tabV at this
  rwa [hX] at this

/-! ### classes lie below how many there are -/
theorem clGo_mono : ∀ (l : List UInt8) (g g' : Nat), clGo l g = some g' → g ≤ g' ∧ ∀ c ∈ l, c.toNat < g'
  | [], g, g', h => by simp only [clGo, Option.some.injEq] at h; subst h; exact ⟨Nat.le_refl _, fun c hc => by cases hc⟩
  | x :: r, g, g', h => by
    simp only [clGo] at h
    split at h
    · cases h
    · rename_i hx
      obtain ⟨h1, h2⟩ := clGo_mono r _ g' h
      refine ⟨by split at h1 <;> omega, fun c hc => ?_⟩
      rcases List.mem_cons.1 hc with rfl | hc
      · split at h1 <;> omega
      · exact h2 c hc
theorem clRight_lt {of : List UInt8} {many : Int} (h : clRightB of many = true) (k : Nat) (hk : k < of.length) : (of[k].toNat : Int) < many := by
  unfold clRightB at h
  cases hg : clGo of 0 with
  | none => rw [hg] at h; cases h
  | some g =>
    rw [hg] at h
    have := (clGo_mono of 0 g hg).2 _ (List.getElem_mem hk)
    simp only [beq_iff_eq] at h
    omega
structure RightT (t : Tab) : Prop where
  cl : clRightB t.of t.many = true
  lo : 1 ≤ t.dmany
  hi : t.dmany ≤ 256
  tlo : 1 ≤ t.tags.length
  thi : t.tags.length ≤ 5000
  len : (t.next.length : Int) = t.tags.length * t.dmany
  tags : ∀ z ∈ t.tags, -1 ≤ z ∧ z ≤ 199
  next : ∀ z ∈ t.next, -1 ≤ z ∧ z ≤ t.tags.length - 1
  same : t.many = t.dmany
  names : namesB t.names = true
  max : maxP t.tags < t.names.length
theorem allB_iff (p : Int → Bool) (l : List Int) : allB p l = true ↔ ∀ z ∈ l, p z = true := by unfold allB; rw [List.all_eq_true]
theorem rightT_iff (t : Tab) : tabRightB t = true ↔ RightT t := by
  unfold tabRightB dfRightB
  simp only [Bool.and_eq_true, withinB_iff, beq_iff_eq, allB_iff, decide_eq_true_eq]
  constructor
  · rintro ⟨h1, ⟨⟨h2, h3⟩, ⟨h4, h5⟩, h6, h7, h8⟩, h9, h10, h11⟩
    exact ⟨h1, h2, h3, by omega, by omega, h6, h7, h8, h9, h10, h11⟩
  · rintro ⟨h1, h2, h3, h4, h5, h6, h7, h8, h9, h10, h11⟩
    exact ⟨h1, ⟨⟨h2, h3⟩, ⟨by omega, by omega⟩, h6, h7, h8⟩, h9, h10, h11⟩

/-! ### small tables -/
def fewD (t : Tab) : Bool := decide (t.tags.length ≤ 60) && decide (t.next.length ≤ 2400)
def fewB (t : Tab) : Bool := decide (t.names.length ≤ 20) && t.names.all (fun s => decide (s.length ≤ 100)) && fewD t
set_option maxRecDepth 100000 in
set_option maxHeartbeats 1000000 in
theorem few8_any (t : Tab) (p : Lie) (w : World) (h : TabAt w t p) :
    Calls Try.prog 18 #[.agg #[.int .i64 t.dmany, .slice p.an t.next.length p.cn, .slice p.at_ t.tags.length p.ct]] w fun e w' => e = .returned (.bool (fewD t)) ∧ Below w.heap.size w w' := by
  have HB := Lib.hid ((Below.refl w.heap.size w).alloc (Nat.le_refl _) (.cells #[.int .i64 t.dmany, .slice p.an t.next.length p.cn, .slice p.at_ t.tags.length p.ct] 27))
  have h1 := h.tags.len
  have h2 := h.next.len
  unfold maxLen at h1 h2
  clear h
  go_enter Try.func18, Try.ntmps18
  go_wp2
  all_goals go_ret
  all_goals exact ⟨ret_bool (by rw [Bool.eq_iff_iff]; simp [fewD]; omega), HB.out⟩
theorem few_step (l : List (List UInt8)) (k : Nat) (h : k < l.length) : (l.take (k + 1)).all (fun s => decide (s.length ≤ 100)) = ((l.take k).all (fun s => decide (s.length ≤ 100)) && decide (l[k].length ≤ 100)) := by
  rw [List.take_succ_eq_append_getElem h, List.all_append]
  simp
theorem few_no (l : List (List UInt8)) (k : Nat) (h : k < l.length) (hp : 100 < l[k].length) : l.all (fun s => decide (s.length ≤ 100)) = false := by
  rw [← Bool.not_eq_true, List.all_eq_true]
  intro hh
  have := hh _ (List.getElem_mem h)
  simp at this
  omega
attribute [local go_sem ↓] loadOp_C loadOp_T
set_option maxRecDepth 100000 in
set_option maxHeartbeats 1000000 in
theorem few_any (t : Tab) (p : Lie) (X : Array Value) (hX : (tabCells t p).toArray = X) (w : World) (h : TabAt w t p) :
    Calls Try.prog 7 #[.agg X] w fun e w' => e = .returned (.bool (fewB t)) ∧ Below w.heap.size w w' := by
  have hi := TabIn.new h
  have hb : Below w.heap.size w (w.alloc (.cells (tabCells t p).toArray 30)) := (Below.refl _ _).alloc (Nat.le_refl _) _
  rw [hX] at hi hb
  have HB := Lib.hid hb
  have HNA := Lib.hid hi.at_.names
  have HSZ := Lib.hid h.each
  have HF8 := Lib.hid (few8_any t p _ hi.at_)
  have hn := hi.names
  have hc1 := hi.dmany
  have hc2 := hi.next
  have hc3 := hi.tags
  have hnl := h.names.len
  unfold maxLen at hnl
  have HR : Hid (fewB t = (decide (t.names.length ≤ 20) && t.names.all (fun s => decide (s.length ≤ 100)) && fewD t)) := show _ = _ from rfl
  have HS := Lib.hid (few_step t.names)
  have HNO := Lib.hid (few_no t.names)
  have HTL : Hid (t.names.all (fun s => decide (s.length ≤ 100)) = (t.names.take t.names.length).all (fun s => decide (s.length ≤ 100))) := by show _ = _; rw [List.take_length]
  clear h hi hb hX
  generalize fewB t = R at *
  generalize hW : w.alloc (.cells X 30) = W at *
  go_enter Try.func7, Try.ntmps7
  go_wp2_with fail
  clear hW
  go_loop [8] (fun i => ∃ k : Nat, k ≤ t.names.length ∧ k ≤ 20 ∧ i = .int .i64 k ∧ Hid ((t.names.take k).all (fun s => decide (s.length ≤ 100)) = true)) (fun i => t.names.length - (intOf i).toNat)
  case atStart => exact ⟨0, Nat.zero_le _, by omega, rfl, show _ = _ from rfl⟩
  case round =>
    obtain ⟨k, hk, hk20, rfl, HK⟩ := hrel
    by_cases hlt : k < t.names.length
    · obtain ⟨b, off, hae, hc⟩ := HNA.out.at_ hlt
      have hsz := HSZ.out _ (List.getElem_mem hlt)
      have HST := Lib.hid (HS.out k hlt)
      have HN2 := Lib.hid (HNO.out k hlt)
      unfold maxLen at hsz
      rw [hae] at hn ⊢
      generalize t.names[k] = s at *
      by_cases hk2 : 20 ≤ k
      · have HR2 : Hid (R = false) := by show _ = _; rw [HR.out, decide_eq_false (by omega)]; rfl
        go_wp2
        go_ret
        exact ⟨ret_bool HR2.out.symm, HB.out⟩
      · have hbs : (bs s).size = s.length := rfl
        by_cases hs : 100 < s.length
        · have HR2 : Hid (R = false) := by show _ = _; rw [HR.out, HN2.out hs]; simp
          have hs2 : 100 < (bs s).size := by omega
          go_wp2
          go_ret
          exact ⟨ret_bool HR2.out.symm, HB.out⟩
        · have hs2 : ¬ 100 < (bs s).size := by omega
          have HK2 : Hid ((t.names.take (k + 1)).all (fun s => decide (s.length ≤ 100)) = true) := by show _ = _; rw [HST.out, HK.out, decide_eq_true (by omega)]; rfl
          go_wp2
          go_round
          case rel => exact ⟨k + 1, by omega, by omega, by go_num, HK2⟩
          case measure => simp [intOf]; omega
    · have hkk : k = t.names.length := by omega
      have HR2 : Hid (R = fewD t) := by
        show _ = _
        rw [HR.out, decide_eq_true (by omega), HTL.out, ← hkk, HK.out]
        rfl
      clear hkk
      go_wp2_with (go_at_call 18; refine HF8.out.mono ?_; rintro e w2 ⟨rfl, hb2⟩)
      go_ret
      exact ⟨ret_bool HR2.out.symm, HB.out.trans (hb2.mono HB.out.size)⟩
end Go.Proofs.Ytkgfjapflpjdbaa
