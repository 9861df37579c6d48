/-
  The contract of nfa.marks.all and of its iterator: the places that are marked. Conditions: the marks lie in memory, at most 1000 words; the library's table lies as its text says.
-/
import Derived.Test.YtdckjjkaoecgaaaDoorNwT
import Derived.Test.YtdckjjkaoecgaaaDoorRnL
namespace Go.Proofs.YtdckjjkaoecgaaaDoor
open Go.RowKit Go.Shelf

attribute [local go_sem] Oper.semAt_some

/-- how far the places are told: all of the words ahead, and of this one those that are struck from it -/
def ToldW (ws : List Nat) (i y : Nat) (pre : List Nat) : Prop := ∀ p, p ∈ pre ↔ bitAt ws p = true ∧ (p < 64 * i ∨ (p / 64 = i ∧ y.testBit (p % 64) = false))
def ToldI (ws : List Nat) (i : Nat) (pre : List Nat) : Prop := ∀ p, p ∈ pre ↔ bitAt ws p = true ∧ p < 64 * i
theorem told_in {ws : List Nat} {i : Nat} {pre : List Nat} (h : ToldI ws i pre) : ToldW ws i (ws.getD i 0) pre := by
  intro p
  rw [h p]
  refine ⟨fun ⟨a, b⟩ => ⟨a, .inl b⟩, fun ⟨a, b⟩ => ⟨a, ?_⟩⟩
  rcases b with b | ⟨b, c⟩
  · exact b
  · unfold bitAt at a
    rw [b, c] at a
    cases a
theorem told_out {ws : List Nat} {i : Nat} {pre : List Nat} (h : ToldW ws i 0 pre) : ToldI ws (i + 1) pre := by
  intro p
  rw [h p]
  refine ⟨fun ⟨a, b⟩ => ⟨a, by omega⟩, fun ⟨a, b⟩ => ⟨a, ?_⟩⟩
  by_cases hp : p < 64 * i
  · exact .inl hp
  · exact .inr ⟨by omega, Nat.zero_testBit _⟩
theorem told_one {ws : List Nat} {i y y' k : Nat} {pre : List Nat} (h : ToldW ws i y pre) (hk : k < 64) (hx : y.testBit k = true) (hy : ∀ j, y'.testBit j = (y.testBit j && decide (j ≠ k))) (hs : ∀ j, y.testBit j = true → (ws.getD i 0).testBit j = true) : ToldW ws i y' (pre ++ [64 * i + k]) := by
  intro p
  rw [List.mem_append, h p, List.mem_singleton]
  constructor
  · rintro (⟨a, b⟩ | rfl)
    · refine ⟨a, ?_⟩
      rcases b with b | ⟨b, c⟩
      · exact .inl b
      · exact .inr ⟨b, by rw [hy, c]; rfl⟩
    · have e1 : (64 * i + k) / 64 = i := by omega
      have e2 : (64 * i + k) % 64 = k := by omega
      refine ⟨?_, .inr ⟨e1, by rw [e2, hy]; simp⟩⟩
      unfold bitAt
      rw [e1, e2]
      exact hs k hx
  · rintro ⟨a, b | ⟨b, c⟩⟩
    · exact .inl ⟨a, .inl b⟩
    · rw [hy] at c
      by_cases e : p % 64 = k
      · exact .inr (by omega)
      · refine .inl ⟨a, .inr ⟨b, ?_⟩⟩
        rw [decide_eq_true e, Bool.and_true] at c
        exact c
/-- a place that is marked -/
abbrev MkP (ws : List Nat) := { p : Nat // bitAt ws p = true }
theorem bit_in {ws : List Nat} {i k : Nat} (hk : k < 64) (h : (ws.getD i 0).testBit k = true) : bitAt ws (64 * i + k) = true := by
  unfold bitAt
  rw [show (64 * i + k) / 64 = i by omega, show (64 * i + k) % 64 = k by omega]
  exact h
set_option maxRecDepth 100000 in
set_option maxHeartbeats 4000000 in
theorem mall1_in (n : Nat) (hn : 1 ≤ n) (l Bx g : Nat) (ws : List Nat) (hws : WordsOk ws) (q : Nat) (hq : ws.length = q) (hq2 : q ≤ 1000) (c : Nat) (X : Nat → Prop) (J Jx : List (MkP ws) → World → Prop) (W : World) (hbx : Blk W Bx 90 #[.slice (some ⟨g, 0, none⟩) q c]) (hrow : Blk W g 42 (wordsV ws)) (hXg : ¬ X g) (hT : TzAt W) (hXt : ¬ X 0)
    (hY : ∀ pre (x : MkP ws) W1, J pre W1 → pre.length < 64 * q → YieldAt Fence.wide (n - 1) Tryd.prog l #[.int .i64 (x.1 : Int)] W1 fun e W' =>
      (e = .returned (.bool true) ∧ J (pre ++ [x]) W' ∧ KeepX X W1 W') ∨ (e = .returned (.bool false) ∧ Jx (pre ++ [x]) W'))
    (h0 : J [] W) :
    CallsIn Fence.wide n Tryd.prog 69 #[.func (.yield l) #[] #[], .pointer (some ⟨Bx, 0, none⟩)] W fun e W' => (∃ v, e = .returned v) ∧
      ((∃ ys : List (MkP ws), (∀ p, bitAt ws p = true → p ∈ ys.map (·.1)) ∧ J ys W') ∨ (∃ pre, True ∧ Jx pre W')) := by
  have b0 := hbx.cell 0
  simp at b0
  refine callsIn_of_wp Tryd.func69 rfl trivial ?_ rfl
  simp only [Tryd.ntmps69, List.size_toArray, List.length_cons, List.length_nil, Nat.reduceAdd, Nat.reduceSub, Array.replicate_succ, Array.replicate_zero, List.push_toArray, List.append_toArray, List.nil_append, List.cons_append]
  have HROW := Lib.hid hrow
  have HY := Lib.hid hY
  have H0 := Lib.hid h0
  have HXG := Lib.hid hXg
  have HXT := Lib.hid hXt
  have HQ := Lib.hid hq
  have HWS := Lib.hid hws
  have HT := Lib.hid hT
  clear hbx hrow hY h0 hXg hXt hq hws hT
  gi_wp2
  gi_loopw [7] (fun v wr => ∃ (i : Nat) (pre : List (MkP ws)), i ≤ q ∧ v = .int .i64 (i : Int) ∧ Hid (J pre wr) ∧ Hid (KeepX X W wr) ∧ Hid (ToldI ws i (pre.map (·.1)) ∧ pre.length ≤ 64 * i)) (fun v _ => q - (intOf v).toNat)
  case atStart => exact ⟨0, [], Nat.zero_le _, rfl, H0.out, KeepX.refl _ _, fun p => by simp, Nat.zero_le _⟩
  case round =>
    obtain ⟨i, pre, hi, rfl, HJ, HK, HTO⟩ := hrel
    by_cases hlt : i < q
    · have hi0 : (0 : Int) ≤ i := by omega
      have hiq' : (i : Int) < q := by omega
      obtain ⟨x, hx⟩ : ∃ x, x = ws.getD i 0 := ⟨_, rfl⟩
      have c1 : wr.cell? ⟨g, i, none⟩ = some (.int .u64 (x : Int)) := by rw [hx]; exact HK.out.cell HXG.out ((HROW.out.cell i).trans (wordsV_at (by have := HQ.out; omega)))
      have hxl : x < 18446744073709551616 := by rw [hx]; exact words_getD HWS.out i
      have HX := Lib.hid hx
      have HTW : Hid (ToldW ws i x (pre.map (·.1))) := by rw [hx]; exact told_in HTO.out.1
      have HPL := Lib.hid HTO.out.2
      clear hx HTO
      gi_wp2
      gi_loopw [4] (fun v wi => ∃ (y d : Nat) (pr : List (MkP ws)), v = .int .u64 (y : Int) ∧ y < 18446744073709551616 ∧ Hid (d ≤ 64 ∧ 2 ^ d ∣ y) ∧ Hid (J pr wi) ∧ Hid (KeepX X W wi) ∧ Hid (ToldW ws i y (pr.map (·.1)) ∧ pr.length ≤ 64 * i + d ∧ ∀ j, y.testBit j = true → x.testBit j = true)) (fun v _ => (intOf v).toNat)
      case atStart => exact ⟨x, 0, pre, rfl, hxl, ⟨by decide, Nat.one_dvd _⟩, HJ, HK, HTW.out, HPL.out, fun _ h => h⟩
      case round =>
        clear HTW HPL HJ HK c1
        obtain ⟨y, d, pr, rfl, hyl, HD, HJ, HK, HTO⟩ := hrel
        by_cases hy0 : y = 0
        · subst hy0
          have HTI := Lib.hid (told_out HTO.out.1)
          have HPL := Lib.hid HTO.out.2.1
          have HDD := Lib.hid HD.out.1
          clear HTO HD hyl
          gi_wp2
          exact ⟨⟨i + 1, pr, hlt, by push_cast; rfl, HJ, HK, HTI.out, by have := HPL.out; have := HDD.out; omega⟩, by simp [intOf]; omega⟩
        · obtain ⟨k, m, hctz, hk, hym, hyn, hyk, hyb⟩ := low_bit hy0 hyl
          have hyb1 : bits BinOp.and IntKind.u64 (y : Int) ((y : Int) - 1) = ((y &&& (y - 1) : Nat) : Int) := by
            have h1 := bits_and_u64_nat y (y - 1) hyl (by omega)
            rw [show ((y - 1 : Nat) : Int) = (y : Int) - 1 by omega] at h1
            exact h1
          obtain ⟨z, hz⟩ : ∃ z, z = y &&& (y - 1) := ⟨_, rfl⟩
          rw [← hz] at hyb1 hyn hyb
          have hzl : z < y := by rw [hyn, hym]; have := Nat.two_pow_pos k; rw [Nat.mul_add, Nat.mul_one]; omega
          have hdk : d ≤ k := by
            obtain ⟨t, ht⟩ := HD.out.2
            apply Nat.le_of_not_lt
            intro hkd
            rw [ht, Nat.testBit_two_pow_mul] at hyk
            simp [Nat.not_le.2 hkd] at hyk
          have HZ : Hid (k + 1 ≤ 64 ∧ 2 ^ (k + 1) ∣ z) := ⟨by omega, ⟨m, by rw [hyn, Nat.pow_succ, Nat.mul_assoc]⟩⟩
          have HTW := Lib.hid (told_one HTO.out.1 hk hyk hyb (fun j hj => by have h1 := HTO.out.2.2 j hj; rw [HX.out] at h1; exact h1))
          have HSB : Hid (∀ j, z.testBit j = true → x.testBit j = true) := fun j hj => HTO.out.2.2 j (by rw [hyb] at hj; exact (Bool.and_eq_true _ _ ▸ hj).1)
          have hbk : bitAt ws (64 * i + k) = true := bit_in hk (by have h1 := HTO.out.2.2 k hyk; rw [HX.out] at h1; exact h1)
          have hY2 := HY.out pr ⟨64 * i + k, hbk⟩ wr HJ.out (by have := HTO.out.2.1; omega)
          have hcast : ((64 * i + k : Nat) : Int) = 64 * (i : Int) + (k : Int) := by omega
          simp only [hcast] at hY2
          obtain ⟨fn, tmps, assign, body, hy, hR⟩ := hY2
          have HCT := Lib.hid (tz64_any y hyl hy0 wr (fun j hj => HK.out.cell HXT.out (HT.out j hj)))
          rw [hctz] at HCT
          clear hyn hym hyk hyb hctz hz hcast
          gi_wp2_with (refine ⟨trivial, ?_⟩; gi_at_call 70; refine (callsIn_wide.2 HCT.out).mono ?_; rintro e w1 ⟨rfl, rfl⟩)
          refine hR.mono ?_
          rintro e W3 (⟨rfl, hJ3, hk3⟩ | ⟨rfl, hJx3⟩)
          · have HJ3 := Lib.hid hJ3
            have HK3 := Lib.hid (HK.out.trans hk3)
            have HPL := Lib.hid HTO.out.2.1
            clear hR hy hJ3 hk3 HTO HJ HK HCT
            gi_wp2
            refine ⟨⟨z, k + 1, _, rfl, by omega, HZ, HJ3, HK3, (by rw [List.map_append]; exact HTW.out), ?_, HSB.out⟩, ?_⟩
            · rw [List.length_append]
              have := HPL.out
              show _ + 1 ≤ _
              omega
            · show ((z : Int)).toNat < ((y : Int)).toNat
              omega
          · clear hR hy
            gi_wp2
            refine bodyPost_ret (results_none rfl _ _ _) rfl ?_
            exact ⟨⟨_, rfl⟩, .inr ⟨_, trivial, hJx3⟩⟩
    · obtain rfl : i = q := by omega
      have HEN : Hid (∀ p, bitAt ws p = true → p ∈ pre.map (·.1)) := fun p h => by
        rw [HTO.out.1 p]
        refine ⟨h, ?_⟩
        apply Nat.lt_of_not_le
        intro h2
        rw [bit_far (by rw [HQ.out]; exact h2)] at h
        cases h
      clear HTO hlt
      gi_wp2
      go_end0
      exact ⟨⟨_, rfl⟩, .inl ⟨_, HEN.out, HJ.out⟩⟩
/-- the iterator's contract, in the caller's form -/
theorem mall_seq (n : Nat) (hn : 1 ≤ n) (Bx g : Nat) (ws : List Nat) (hws : WordsOk ws) (q : Nat) (hq : ws.length = q) (hq2 : q ≤ 1000) (c : Nat) (X : Nat → Prop) (w : World) (hbx : Blk w Bx 90 #[.slice (some ⟨g, 0, none⟩) q c]) (hrow : Blk w g 42 (wordsV ws)) (hXg : ¬ X g) (hT : TzAt w) (htb : 0 < w.heap.size) (hXt : ¬ X 0) :
    SeqStopsK Fence.wide n Tryd.prog 69 #[.pointer (some ⟨Bx, 0, none⟩)] (fun p : MkP ws => #[.int .i64 (p.1 : Int)]) (KeepX X) (fun ys => ∀ p, bitAt ws p = true → p ∈ ys.map (·.1)) (fun _ => True) (64 * q) w :=
  fun l J Jx W hW _ _ hY h0 => mall1_in n hn l Bx g ws hws q hq hq2 c X J Jx W (hbx.below hW hbx.lt) (hrow.below hW hrow.lt) hXg (hT.below htb hW) hXt (fun pre x W1 h1 h3 => hY pre x W1 h1 h3) h0
set_option maxRecDepth 100000 in
theorem mall_any (a : Option Addr) (q c : Nat) (w : World) :
    Calls Tryd.prog 57 #[.slice a q c] w fun e w' => e = .returned (.func (.func 69) #[] #[.pointer (some ⟨w.heap.size, 0, none⟩)]) ∧ w' = w.alloc (.cells #[.slice a q c] 90) := by
  go_enter Tryd.func57, Tryd.ntmps57
  go_wp2
  go_ret
  exact ⟨rfl, rfl⟩
end Go.Proofs.YtdckjjkaoecgaaaDoor
