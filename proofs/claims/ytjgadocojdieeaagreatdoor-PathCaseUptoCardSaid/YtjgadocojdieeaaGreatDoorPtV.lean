/-
  The contract of frankinglaw15.Same. Conditions: the routes lie in memory.
-/
import Derived.Test.YtjgadocojdieeaaGreatDoorPtU
namespace Go.Proofs.YtjgadocojdieeaaGreatDoor
open Go.RowKit Go.Shelf

def paV (p : Pa) (a : Option Addr) (c : Nat) : Value := .agg (paCells p (.slice a p.route.length c))
theorem toL_eq (a b : List UInt8) : ((bs a).toList == (bs b).toList) = decide (a = b) := by
  rw [bs_toL, bs_toL]
  by_cases h : a = b
  · subst h; simp
  · rw [decide_eq_false h]; simpa using h
theorem pa_ne {p q : Pa} (h : p.null ≠ q.null ∨ p.loc ≠ q.loc ∨ p.dom ≠ q.dom ∨ p.lit ≠ q.lit ∨ p.route ≠ q.route) : decide (p = q) = false := by
  refine decide_eq_false ?_
  rintro rfl
  rcases h with h | h | h | h | h <;> exact h rfl
theorem pa_eq {p q : Pa} (h1 : p.null = q.null) (h2 : p.loc = q.loc) (h3 : p.dom = q.dom) (h4 : p.lit = q.lit) (h5 : p.route = q.route) : decide (p = q) = true := by
  refine decide_eq_true ?_
  cases p
  cases q
  simp_all
def SameOut (w : World) (b : Bool) (e : Ending) (w' : World) : Prop := e = .returned (.bool b) ∧ Below w.heap.size w w'
set_option maxRecDepth 100000 in
set_option maxHeartbeats 2000000 in
theorem same_any (p q : Pa) (a1 a2 : Option Addr) (c1 c2 : Nat) (w : World) (h1 : TextsAt w a1 p.route) (h2 : TextsAt w a2 q.route) : Calls Tryz.prog 8 #[paV p a1 c1, paV q a2 c2] w (SameOut w (decide (p = q))) := by
  unfold paV paCells
  have HB : Hid (∀ o1 o2, Below w.heap.size w ((w.alloc o1).alloc o2)) := fun o1 o2 => (((Below.refl _ w).alloc (Nat.le_refl _) _).alloc (by rw [World.size_alloc]; omega) _)
  have HQ : Hid (∀ b w', b = decide (p = q) → Below w.heap.size w w' → SameOut w (decide (p = q)) (.returned (.bool b)) w') := fun b w' hb h => by subst hb; exact ⟨rfl, h⟩
  have hl := toL_eq p.loc q.loc
  have hd := toL_eq p.dom q.dom
  have HP := Lib.hid h1
  have HR := Lib.hid h2
  have hm1 := h1.len
  have hm2 := h2.len
  have HMX : Hid (p.route.length ≤ maxLen) := hm1
  generalize SameOut w (decide (p = q)) = Q at *
  clear h1 h2 hm1 hm2
  have HF : Hid (p.null ≠ q.null ∨ p.loc ≠ q.loc ∨ p.dom ≠ q.dom ∨ p.lit ≠ q.lit ∨ p.route ≠ q.route → ∀ w', Below w.heap.size w w' → Q (.returned (.bool false)) w') := fun h w' hb => HQ.out false w' (pa_ne h).symm hb
  by_cases e1 : p.null = q.null
  · have e1b : (p.null == q.null) = true := by simpa using e1
    by_cases e2 : p.loc = q.loc
    · rw [decide_eq_true e2] at hl
      by_cases e3 : p.dom = q.dom
      · rw [decide_eq_true e3] at hd
        by_cases e4 : p.lit = q.lit
        · have e4b : (p.lit == q.lit) = true := by simpa using e4
          by_cases e5 : p.route.length = q.route.length
          · have HT := Lib.hid (fun (h : p.route = q.route) w' (hb : Below w.heap.size w w') => HQ.out true w' (pa_eq e1 e2 e3 e4 h).symm hb)
            have HF2 := Lib.hid (fun (h : p.route ≠ q.route) => HF.out (.inr (.inr (.inr (.inr h)))))
            clear HF HQ e1 e2 e3 e4
            obtain ⟨n, hn⟩ : ∃ n, n = p.route.length := ⟨_, rfl⟩
            rw [← e5, ← hn]
            have HN1 := Lib.hid hn
            have HN2 := Lib.hid (hn.trans e5)
            clear hn e5
            generalize bs p.loc = x1 at *
            generalize bs q.loc = x2 at *
            generalize bs p.dom = x3 at *
            generalize bs q.dom = x4 at *
            generalize p.null = y1 at *
            generalize q.null = y2 at *
            generalize p.lit = y3 at *
            generalize q.lit = y4 at *
            go_enter Tryz.func8, Tryz.ntmps8
            go_wp2
            obtain ⟨W1, hW1⟩ : ∃ W1, W1 = w.alloc (.cells #[.bool y1, .slice a1 n c1, .string x1, .string x3, .bool y3] 26) := ⟨_, rfl⟩
            have hB1 : Blk W1 w.heap.size 26 #[.bool y1, .slice a1 n c1, .string x1, .string x3, .bool y3] := by rw [hW1]; exact Blk.new _ _ _
            have hs1 : W1.heap.size = w.heap.size + 1 := by rw [hW1, World.size_alloc]
            rw [← hW1]
            obtain ⟨W2, hW2⟩ : ∃ W2, W2 = W1.alloc (.cells #[.bool y2, .slice a2 n c2, .string x2, .string x4, .bool y4] 26) := ⟨_, rfl⟩
            have hB2 : Blk W2 (w.heap.size + 1) 26 #[.bool y2, .slice a2 n c2, .string x2, .string x4, .bool y4] := by rw [hW2, ← hs1]; exact Blk.new _ _ _
            have hB3 : Blk W2 w.heap.size 26 #[.bool y1, .slice a1 n c1, .string x1, .string x3, .bool y3] := by rw [hW2]; exact hB1.alloc _
            have hL : Below w.heap.size w W2 := by rw [hW2, hW1]; exact HB.out _ _
            rw [← hW2]
            have HL := Lib.hid hL
            have HG1 := Lib.hid hB3
            have HG2 := Lib.hid hB2
            have HP2 := Lib.hid (RowAt.below HP.out hL)
            have HR2 := Lib.hid (RowAt.below HR.out hL)
            obtain ⟨g1, hg1⟩ : ∃ g1, g1 = w.heap.size := ⟨_, rfl⟩
            obtain ⟨g2, hg2⟩ : ∃ g2, g2 = w.heap.size + 1 := ⟨_, rfl⟩
            rw [← hg2] at HG2 ⊢
            rw [← hg1] at HG1 HL ⊢
            have HT2 : Hid (p.route = q.route → ∀ m, Q (.returned (.bool true)) (W2.drewN m)) := fun h m => HT.out h _ (by rw [← hg1]; exact ⟨HL.out.os, HL.out.tape, HL.out.output, HL.out.size, HL.out.block⟩)
            have HF3 : Hid (p.route ≠ q.route → ∀ m, Q (.returned (.bool false)) (W2.drewN m)) := fun h m => HF2.out h _ (by rw [← hg1]; exact ⟨HL.out.os, HL.out.tape, HL.out.output, HL.out.size, HL.out.block⟩)
            clear hW1 hB1 hs1 hW2 hB2 hB3 hL hg1 hg2 HT HF2 HL HP HR HB
            have hnb : (n : Int) ≤ 9223372036854775807 := by have h1 := HMX.out; have h2 : n = p.route.length := HN1.out; unfold maxLen at h1; omega
            go_loopw [30] (fun i wr => ∃ k m : Nat, k ≤ n ∧ i = .int .i64 k ∧ Hid (p.route.take k = q.route.take k) ∧ Hid (wr = W2.drewN m)) (fun i _ => n - (intOf i).toNat)
            case atStart => exact ⟨0, 0, Nat.zero_le _, rfl, rfl, rfl⟩
            case round =>
              obtain ⟨k, m, hk, rfl, HE, HW⟩ := hrel
              have hk0 : (0 : Int) ≤ (k : Int) := by omega
              by_cases hlt : k < n
              · have hkp : k < p.route.length := by rw [← HN1.out]; exact hlt
                have hkq : k < q.route.length := by rw [← HN2.out]; exact hlt
                have hkz : (k : Int) < (n : Int) := by omega
                obtain ⟨b1, o1, rfl, r1⟩ := TextsAt.at_ HP2.out hkp
                obtain ⟨b2, o2, rfl, r2⟩ := TextsAt.at_ HR2.out hkq
                have d1 := HG1.out.cell 1
                have d2 := HG2.out.cell 1
                simp at d1 d2
                have hx := toL_eq p.route[k] q.route[k]
                have HST : Hid (p.route[k] = q.route[k] → p.route.take (k + 1) = q.route.take (k + 1)) := fun h => by
                  rw [List.take_succ_eq_append_getElem hkp, List.take_succ_eq_append_getElem hkq, h, HE.out]
                have HNE : Hid (p.route[k] ≠ q.route[k] → p.route ≠ q.route) := fun h e => h (by
                  have : p.route[k]? = q.route[k]? := by rw [e]
                  rw [List.getElem?_eq_getElem hkp, List.getElem?_eq_getElem hkq] at this
                  exact Option.some.inj this)
                have r1' : wr.cell? ⟨b1, o1 + k, none⟩ = some (.string (bs p.route[k])) := by rw [HW.out]; exact r1
                have r2' : wr.cell? ⟨b2, o2 + k, none⟩ = some (.string (bs q.route[k])) := by rw [HW.out]; exact r2
                have d1' : wr.cell? ⟨g1, 1, none⟩ = some (.slice (some ⟨b1, o1, none⟩) n c1) := by rw [HW.out]; exact d1
                have d2' : wr.cell? ⟨g2, 1, none⟩ = some (.slice (some ⟨b2, o2, none⟩) n c2) := by rw [HW.out]; exact d2
                clear r1 r2 d1 d2
                generalize hu : p.route[k] = u at *
                generalize hv : q.route[k] = v at *
                clear hu hv hkp hkq
                by_cases huv : u = v
                · rw [decide_eq_true huv] at hx
                  have HNX := Lib.hid (HST.out huv)
                  clear HST HNE huv
                  generalize bs u = su at *
                  generalize bs v = sv at *
                  go_wp2
                  go_quiet (fail)
                  go_wp2
                  go_roundw
                  case rel => exact ⟨k + 1, m + nq, by omega, by go_num, HNX.out, (by show _ = _; rw [HW.out]; exact drewN_add W2 m nq)⟩
                  case measure => simp [intOf]; omega
                · rw [decide_eq_false huv] at hx
                  have HNX := Lib.hid (HNE.out huv)
                  clear HST HNE huv
                  generalize bs u = su at *
                  generalize bs v = sv at *
                  go_wp2
                  go_quiet (fail)
                  go_wp2
                  rw [HW.out, drewN_add]
                  exact HF3.out HNX.out _
              · have hke : k = n := by omega
                have hkz : ¬ (k : Int) < (n : Int) := by omega
                have HRR : Hid (p.route = q.route) := by
                  have h1 := HE.out
                  rw [hke] at h1
                  rw [show n = p.route.length from HN1.out, List.take_length] at h1
                  rw [show p.route.length = q.route.length from HN1.out.symm.trans HN2.out, List.take_length] at h1
                  exact h1
                clear hke HE
                go_wp2
                rw [HW.out]
                exact HT2.out HRR.out m
          · have HO := Lib.hid (HF.out (.inr (.inr (.inr (.inr (fun h => e5 (by rw [h])))))))
            have e5z : ((p.route.length : Int) == (q.route.length : Int)) = false := by simp; omega
            clear HF HQ e1 e2 e3 e4 e5
            generalize bs p.loc = x1 at *
            generalize bs q.loc = x2 at *
            generalize bs p.dom = x3 at *
            generalize bs q.dom = x4 at *
            go_enter Tryz.func8, Tryz.ntmps8
            go_wp2
            exact HO.out _ (HB.out _ _)
        · have HO := Lib.hid (HF.out (.inr (.inr (.inr (.inl e4)))))
          have e4b : (p.lit == q.lit) = false := by simpa using e4
          clear HF HQ e1 e2 e3 e4
          generalize bs p.loc = x1 at *
          generalize bs q.loc = x2 at *
          generalize bs p.dom = x3 at *
          generalize bs q.dom = x4 at *
          go_enter Tryz.func8, Tryz.ntmps8
          go_wp2
          exact HO.out _ (HB.out _ _)
      · have HO := Lib.hid (HF.out (.inr (.inr (.inl e3))))
        rw [decide_eq_false e3] at hd
        clear HF HQ e1 e2 e3
        generalize bs p.loc = x1 at *
        generalize bs q.loc = x2 at *
        generalize bs p.dom = x3 at *
        generalize bs q.dom = x4 at *
        go_enter Tryz.func8, Tryz.ntmps8
        go_wp2
        exact HO.out _ (HB.out _ _)
    · have HO := Lib.hid (HF.out (.inr (.inl e2)))
      rw [decide_eq_false e2] at hl
      clear HF HQ e1 e2
      generalize bs p.loc = x1 at *
      generalize bs q.loc = x2 at *
      generalize bs p.dom = x3 at *
      generalize bs q.dom = x4 at *
      go_enter Tryz.func8, Tryz.ntmps8
      go_wp2
      exact HO.out _ (HB.out _ _)
  · have HO := Lib.hid (HF.out (.inl e1))
    clear HF HQ
    generalize p.null = n1 at *
    generalize q.null = n2 at *
    clear hl hd
    go_enter Tryz.func8, Tryz.ntmps8
    go_wp2
    exact HO.out _ (HB.out _ _)
end Go.Proofs.YtjgadocojdieeaaGreatDoor
