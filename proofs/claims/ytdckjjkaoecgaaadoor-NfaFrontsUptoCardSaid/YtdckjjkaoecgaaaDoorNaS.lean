/-
  The contract of frankinglaw07.Same: are two machines the same? Conditions: their states lie in memory.
-/
import Derived.Test.YtdckjjkaoecgaaaDoorNwC
import Derived.Test.YtdckjjkaoecgaaaDoorNrA
import Derived.BigQuiet
import Derived.Deep.DeepCutAuto
import Derived.Deep.RegionHeld3
import Derived.Test.YtdckjjkaoecgaaaDoorGh
namespace Go.Proofs.YtdckjjkaoecgaaaDoor
open Go.RowKit

theorem nsSame_iff (x y : NS) : nsSame x y = true ↔ x = y := by
  unfold nsSame
  cases x
  cases y
  simp [and_assoc]
set_option maxRecDepth 100000 in
set_option maxHeartbeats 4000000 in
theorem same7_any (s1 s2 : Int) (a1 a2 : Option Addr) (c1 c2 : Nat) (l1 l2 : List NS) (n1 n2 : Nat) (hn1 : l1.length = n1) (hn2 : l2.length = n2) (hm1 : n1 ≤ 281474976710656) (hm2 : n2 ≤ 281474976710656) (w : World) (h1 : NsIn w w.heap.size a1 l1) (h2 : NsIn w w.heap.size a2 l2) (r : Bool) (hr : r = true ↔ s1 = s2 ∧ l1 = l2) :
    Calls Tryd.prog 14 #[.agg #[.int .i64 s1, .slice a1 n1 c1], .agg #[.int .i64 s2, .slice a2 n2 c2]] w fun e w' => e = .returned (.bool r) ∧ Below w.heap.size w w' := by
  have H1 := Lib.hid h1
  have H2 := Lib.hid h2
  have HN1 := Lib.hid hn1
  have HN2 := Lib.hid hn2
  have HR := Lib.hid hr
  obtain ⟨W1, hW1⟩ : ∃ W1, W1 = (w.alloc (.cells #[.int .i64 s1, .slice a1 n1 c1] 25)).alloc (.cells #[.int .i64 s2, .slice a2 n2 c2] 25) := ⟨_, rfl⟩
  have HL1 : Hid (Below w.heap.size w W1) := by rw [hW1]; exact ((Below.refl _ _).alloc (Nat.le_refl _) _).alloc (by simp) _
  have HA1 : Hid (Blk W1 w.heap.size 25 #[.int .i64 s1, .slice a1 n1 c1]) := by rw [hW1]; exact (Blk.new _ _ _).alloc _
  have HA2 : Hid (Blk W1 (w.heap.size + 1) 25 #[.int .i64 s2, .slice a2 n2 c2]) := by rw [hW1]; exact Blk.new_at _ _ _ _ (by simp)
  have p0 := HA1.out.cell 0
  have p1 := HA1.out.cell 1
  have q0 := HA2.out.cell 0
  have q1 := HA2.out.cell 1
  simp at p0 p1 q0 q1
  clear h1 h2 hn1 hn2 hr
  go_enter Tryd.func14, Tryd.ntmps14
  go_upto_region 1 with (fail)
  rw [← hW1]
  clear hW1
  by_cases hs : s1 = s2
  · subst hs
    by_cases hn : n1 = n2
    · subst hn
      go_wp2_with (fail)
      go_loopw [23] (fun i wr => ∃ k : Nat, k ≤ n1 ∧ i = .int .i64 (k : Int) ∧ Hid (Below W1.heap.size W1 wr) ∧ Hid (l1.take k = l2.take k)) (fun i _ => n1 - (intOf i).toNat)
      case atStart => exact ⟨0, Nat.zero_le _, rfl, Below.refl _ _, rfl⟩
      case round =>
        obtain ⟨k, hk, rfl, HL, HK⟩ := hrel
        have hsz : w.heap.size + 1 < W1.heap.size := HA2.out.lt
        have u1 := (HA1.out.below HL.out (by omega)).cell 1
        have v1 := (HA2.out.below HL.out hsz).cell 1
        simp at u1 v1
        by_cases hlt : k < n1
        · have hk1 : k < l1.length := by rw [HN1.out]; exact hlt
          have hk2 : k < l2.length := by rw [HN2.out]; exact hlt
          obtain ⟨x, hx⟩ : ∃ x, l1[k]? = some x := ⟨_, List.getElem?_eq_getElem hk1⟩
          obtain ⟨y, hy⟩ : ∃ y, l2[k]? = some y := ⟨_, List.getElem?_eq_getElem hk2⟩
          obtain ⟨g1, o1, e1, hg1, hc1⟩ := H1.out k x hx
          obtain ⟨g2, o2, e2, hg2, hc2⟩ := H2.out k y hy
          have hLW : Below w.heap.size w wr := HL1.out.trans (HL.out.mono HL1.out.size)
          have hcw1 : ∀ j u, (nsCells x)[j]? = some u → wr.drew.cell? ⟨g1, o1 + k * 8 + j, none⟩ = some u := fun j u hj => (hLW.drew.cell (p := ⟨g1, o1 + k * 8 + j, none⟩) hg1).trans (hc1 j u hj)
          have hcw2 : ∀ j u, (nsCells y)[j]? = some u → wr.drew.cell? ⟨g2, o2 + k * 8 + j, none⟩ = some u := fun j u hj => (hLW.drew.cell (p := ⟨g2, o2 + k * 8 + j, none⟩) hg2).trans (hc2 j u hj)
          have x0 := hcw1 0 _ rfl
          have x1 := hcw1 1 _ rfl
          have x2 := hcw1 2 _ rfl
          have x3 := hcw1 3 _ rfl
          have x4 := hcw1 4 _ rfl
          have x5 := hcw1 5 _ rfl
          have x6 := hcw1 6 _ rfl
          have x7 := hcw1 7 _ rfl
          have y0 := hcw2 0 _ rfl
          have y1 := hcw2 1 _ rfl
          have y2 := hcw2 2 _ rfl
          have y3 := hcw2 3 _ rfl
          have y4 := hcw2 4 _ rfl
          have y5 := hcw2 5 _ rfl
          have y6 := hcw2 6 _ rfl
          have y7 := hcw2 7 _ rfl
          rw [Nat.add_zero] at x0 y0
          have u1d : wr.drew.cell? ⟨w.heap.size, 1, none⟩ = _ := u1
          have v1d : wr.drew.cell? ⟨w.heap.size + 1, 1, none⟩ = _ := v1
          subst e1 e2
          have hk0 : (0 : Int) ≤ (k : Int) := by omega
          have hkl : (k : Int) < (n1 : Int) := by omega
          have hE := fun W => ns_eq x y W
          unfold nsCells at hE
          have HX : Hid (l1[k]'hk1 = x ∧ l2[k]'hk2 = y) := ⟨by rw [List.getElem?_eq_getElem hk1] at hx; injection hx, by rw [List.getElem?_eq_getElem hk2] at hy; injection hy⟩
          have HTK : Hid (nsSame x y = true → l1.take (k + 1) = l2.take (k + 1)) := fun h => by
            rw [List.take_succ_eq_append_getElem hk1, List.take_succ_eq_append_getElem hk2, HK.out, HX.out.1, HX.out.2, (nsSame_iff x y).1 h]
          have HNO : Hid (nsSame x y = false → r = false) := fun h => by
            rw [← Bool.not_eq_true, HR.out]
            rintro ⟨_, hh⟩
            have h3 : x = y := by rw [← HX.out.1, ← HX.out.2]; simp only [hh]
            rw [(nsSame_iff x y).2 h3] at h
            cases h
          clear hcw1 hcw2 hc1 hc2 hx hy hk1 hk2 HX
          generalize nsSame x y = C at *
          cases C with
          | true =>
            have HTK2 := Lib.hid (HTK.out rfl)
            clear HTK HNO HK
            go_wp2
            go_region
            go_wp2
            exact ⟨⟨k + 1, hlt, by push_cast; rfl, HL.out.drew, HTK2⟩, by simp [intOf]; omega⟩
          | false =>
            have HF := Lib.hid (HNO.out rfl)
            clear HTK HNO HK
            go_wp2
            go_region
            go_wp2
            go_ret
            exact ⟨ret_bool HF.out.symm, (HL1.out.trans (HL.out.mono HL1.out.size)).drew⟩
        · obtain rfl : k = n1 := by omega
          have HF : Hid (r = true) := by
            show _ = _
            rw [HR.out]
            have h3 := HK.out
            rw [List.take_of_length_le (by rw [HN1.out]; exact Nat.le_refl _), List.take_of_length_le (by rw [HN2.out]; exact Nat.le_refl _)] at h3
            exact ⟨trivial, h3⟩
          clear HK
          go_wp2_with (fail)
          go_ret
          exact ⟨ret_bool HF.out.symm, HL1.out.trans (HL.out.mono HL1.out.size)⟩
    · have hn3 : ((n1 : Int) == (n2 : Int)) = false := by rw [Bool.eq_false_iff]; intro e; rw [beq_iff_eq] at e; omega
      have HF : Hid (r = false) := by
        show _ = _
        rw [← Bool.not_eq_true, HR.out]
        rintro ⟨_, hh⟩
        exact hn (by rw [← HN1.out, ← HN2.out, hh])
      go_wp2_with (fail)
      go_ret
      exact ⟨ret_bool HF.out.symm, HL1.out⟩
  · have hs3 : (s1 == s2) = false := by rw [Bool.eq_false_iff]; intro e; exact hs (beq_iff_eq.1 e)
    have HF : Hid (r = false) := by
      show _ = _
      rw [← Bool.not_eq_true, HR.out]
      rintro ⟨hh, _⟩
      exact hs hh
    go_wp2_with (fail)
    go_ret
    exact ⟨ret_bool HF.out.symm, HL1.out⟩
end Go.Proofs.YtdckjjkaoecgaaaDoor
