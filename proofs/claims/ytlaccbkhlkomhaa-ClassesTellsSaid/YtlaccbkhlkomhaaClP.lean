/-
  The contract of classes.partsAny. Conditions: 256 bytes, a set.
-/
import Derived.Test.YtlaccbkhlkomhaaClA
import Derived.Test.YtlaccbkhlkomhaaClB
namespace Go.Proofs.Ytlaccbkhlkomhaa
open Go.RowKit

/-- a set tells two bytes of one class apart, among the first ones -/
def PartsTo (of : List UInt8) (s : St) (k : Nat) : Prop := ∃ i, i < k ∧ ∃ j, j < k ∧ of.getD i 0 = of.getD j 0 ∧ inS s i = true ∧ inS s j = false
instance (of : List UInt8) (s : St) (k : Nat) : Decidable (PartsTo of s k) := inferInstanceAs (Decidable (∃ i, i < k ∧ ∃ j, j < k ∧ of.getD i 0 = of.getD j 0 ∧ inS s i = true ∧ inS s j = false))
def partsB (of : List UInt8) (s : St) : Bool := decide (PartsTo of s 256)
/-- which classes have a byte that is in the set (or is not), among the first ones -/
def SideTo (of : List UInt8) (s : St) (k : Nat) (d : Bool) (c : Nat) : Bool := decide (∃ i, i < k ∧ (of.getD i 0).toNat = c ∧ inS s i = d)
structure Side (of : List UInt8) (s : St) (k : Nat) (d : Bool) (cs : Array Value) : Prop where
  size : cs.size = 256
  at_ : ∀ c, c < 256 → cs[c]? = some (.bool (SideTo of s k d c))
theorem SideTo_succ (of : List UInt8) (s : St) (k : Nat) (d : Bool) (c : Nat) : SideTo of s (k + 1) d c = (SideTo of s k d c || (decide ((of.getD k 0).toNat = c) && (inS s k == d))) := by
  unfold SideTo
  rw [Bool.eq_iff_iff]
  simp only [decide_eq_true_eq, Bool.or_eq_true, Bool.and_eq_true, beq_iff_eq]
  constructor
  · rintro ⟨i, hi, h1, h2⟩
    by_cases hk : i = k
    · subst hk; exact .inr ⟨h1, h2⟩
    · exact .inl ⟨i, by omega, h1, h2⟩
  · rintro (⟨i, hi, h1, h2⟩ | ⟨h1, h2⟩)
    · exact ⟨i, by omega, h1, h2⟩
    · exact ⟨k, by omega, h1, h2⟩
theorem Side.start (of : List UInt8) (s : St) (d : Bool) : Side of s 0 d (Array.replicate 256 (.bool false)) := by
  refine ⟨by simp, fun c hc => ?_⟩
  have : SideTo of s 0 d c = false := by unfold SideTo; simp
  rw [this]
  simp [hc]
theorem Side.hit {of : List UInt8} {s : St} {k : Nat} {d : Bool} {cs : Array Value} (h : Side of s k d cs) (hd : inS s k = d) : Side of s (k + 1) d (cs.setIfInBounds (of.getD k 0).toNat (.bool true)) := by
  refine ⟨by simp [h.size], fun c hc => ?_⟩
  rw [SideTo_succ]
  by_cases hcc : (of.getD k 0).toNat = c
  · subst hcc
    rw [Array.getElem?_setIfInBounds_self_of_lt (by rw [h.size]; exact hc)]
    simp [hd]
  · rw [Array.getElem?_setIfInBounds_ne hcc, h.at_ c hc, decide_eq_false hcc, Bool.false_and, Bool.or_false]
theorem Side.miss {of : List UInt8} {s : St} {k : Nat} {d : Bool} {cs : Array Value} (h : Side of s k d cs) (hd : inS s k ≠ d) : Side of s (k + 1) d cs := by
  refine ⟨h.size, fun c hc => ?_⟩
  rw [SideTo_succ, h.at_ c hc]
  simp [hd]
theorem PartsTo_succ (of : List UInt8) (s : St) (k : Nat) : PartsTo of s (k + 1) ↔ PartsTo of s k ∨ SideTo of s k (!inS s k) (of.getD k 0).toNat = true := by
  unfold SideTo
  rw [decide_eq_true_eq]
  constructor
  · rintro ⟨i, hi, j, hj, he, h1, h2⟩
    by_cases hik : i = k
    · subst hik
      have hjk : j ≠ i := fun h => by rw [h, h1] at h2; cases h2
      exact .inr ⟨j, by omega, by rw [he], by rw [h1, h2]; rfl⟩
    · by_cases hjk : j = k
      · subst hjk
        exact .inr ⟨i, by omega, by rw [he], by rw [h1, h2]; rfl⟩
      · exact .inl ⟨i, by omega, j, by omega, he, h1, h2⟩
  · rintro (⟨i, hi, j, hj, he, h1, h2⟩ | ⟨i, hi, hc, hd⟩)
    · exact ⟨i, by omega, j, by omega, he, h1, h2⟩
    · have he : of.getD i 0 = of.getD k 0 := UInt8.toNat_inj.1 hc
      cases hk : inS s k with
      | true => exact ⟨k, by omega, i, by omega, he.symm, hk, by rw [hd, hk]; rfl⟩
      | false => exact ⟨i, by omega, k, by omega, he, by rw [hd, hk]; rfl, hk⟩
theorem PartsTo.mono {of : List UInt8} {s : St} {k m : Nat} (h : PartsTo of s k) (hm : k ≤ m) : PartsTo of s m := by
  obtain ⟨i, hi, j, hj, h⟩ := h
  exact ⟨i, by omega, j, by omega, h⟩
/-- the memory of the search -/
structure PaMem (w wr : World) (cs sc : Array Value) (of : List UInt8) (s : St) (k : Nat) (a b : Array Value) : Prop where
  low : Below w.heap.size w wr
  cl : Blk wr w.heap.size 25 cs
  st : Blk wr (w.heap.size + 1) 28 sc
  bi : Blk wr (w.heap.size + 1 + 1) 67 a
  bo : Blk wr (w.heap.size + 1 + 1 + 1) 67 b
  ins : Side of s k true a
  outs : Side of s k false b
  no : ¬ PartsTo of s k
theorem PaMem.later {w wr w5 : World} {cs sc : Array Value} {of : List UInt8} {s : St} {k : Nat} {a b : Array Value} (h : PaMem w wr cs sc of s k a b) (hb : Below wr.heap.size wr w5) : PaMem w w5 cs sc of s k a b :=
  ⟨low_trans h.low hb, h.cl.below hb h.cl.lt, h.st.below hb h.st.lt, h.bi.below hb h.bi.lt, h.bo.below hb h.bo.lt, h.ins, h.outs, h.no⟩
theorem PaMem.in_ {w wr : World} {cs sc : Array Value} {of : List UInt8} {s : St} {k : Nat} {a b : Array Value} (h : PaMem w wr cs sc of s k a b) (hd : inS s k = true) (hn : SideTo of s k false (of.getD k 0).toNat = false) :
    PaMem w (wr.setCell ⟨w.heap.size + 1 + 1, (of.getD k 0).toNat, none⟩ (.bool true)) cs sc of s (k + 1) (a.setIfInBounds (of.getD k 0).toNat (.bool true)) b :=
  ⟨h.low.setCell (p := ⟨w.heap.size + 1 + 1, (of.getD k 0).toNat, none⟩) (by show w.heap.size ≤ w.heap.size + 1 + 1; omega) _, h.cl.other (by show w.heap.size ≠ w.heap.size + 1 + 1; omega) _, h.st.other (by show w.heap.size + 1 ≠ w.heap.size + 1 + 1; omega) _, h.bi.set_ _ _, h.bo.other (by show w.heap.size + 1 + 1 + 1 ≠ w.heap.size + 1 + 1; omega) _, h.ins.hit hd, h.outs.miss (by rw [hd]; decide), fun hp => by
    rcases (PartsTo_succ of s k).1 hp with hp | hp
    · exact h.no hp
    · rw [hd] at hp
      rw [show (!true) = false from rfl, hn] at hp
      cases hp⟩
theorem PaMem.out_ {w wr : World} {cs sc : Array Value} {of : List UInt8} {s : St} {k : Nat} {a b : Array Value} (h : PaMem w wr cs sc of s k a b) (hd : inS s k = false) (hn : SideTo of s k true (of.getD k 0).toNat = false) :
    PaMem w (wr.setCell ⟨w.heap.size + 1 + 1 + 1, (of.getD k 0).toNat, none⟩ (.bool true)) cs sc of s (k + 1) a (b.setIfInBounds (of.getD k 0).toNat (.bool true)) :=
  ⟨h.low.setCell (p := ⟨w.heap.size + 1 + 1 + 1, (of.getD k 0).toNat, none⟩) (by show w.heap.size ≤ w.heap.size + 1 + 1 + 1; omega) _, h.cl.other (by show w.heap.size ≠ w.heap.size + 1 + 1 + 1; omega) _, h.st.other (by show w.heap.size + 1 ≠ w.heap.size + 1 + 1 + 1; omega) _, h.bi.other (by show w.heap.size + 1 + 1 ≠ w.heap.size + 1 + 1 + 1; omega) _, h.bo.set_ _ _, h.ins.miss (by rw [hd]; decide), h.outs.hit hd, fun hp => by
    rcases (PartsTo_succ of s k).1 hp with hp | hp
    · exact h.no hp
    · rw [hd] at hp
      rw [show (!false) = true from rfl, hn] at hp
      cases hp⟩
set_option maxRecDepth 100000 in
set_option maxHeartbeats 4000000 in
theorem partsAny_any (of : List UInt8) (many : Int) (s : St) (w : World) (ho : of.length = 256) (hs : s.ok) :
    Calls Try.prog 27 #[.agg (clCells of many).toArray, setV s] w fun e w' => e = .returned (.bool (partsB of s)) ∧ Below w.heap.size w w' := by
  obtain ⟨cs, HC⟩ : ∃ cs, Hid ((clCells of many).toArray = cs) := ⟨_, rfl⟩
  have HHAS : Hid (∀ (b : Nat), b < 256 → ∀ w, Calls Try.prog 37 #[setV s, .int .i64 (b : Int)] w fun e w' => e = .returned (.bool (inS s b)) ∧ Below w.heap.size w w') := fun b hb w => has_any s b hb hs w
  rw [HC.out]
  obtain ⟨zs, hzs⟩ : ∃ zs : Array Value, zs = Array.replicate 256 (.bool false) := ⟨_, rfl⟩
  have hz : ∀ W, (zeroValue 67).run Try.prog W = .ok (.agg zs) W := fun W => by rw [hzs]; kernel_rfl
  have HZ := Lib.hid hzs
  clear hzs
  unfold setV at *
  unfold setC at *
  go_enter Try.func27, Try.ntmps27
  go_wp2
  have HP0 : Hid (PaMem w ((((w.alloc (.cells cs 25)).alloc (.cells #[.int .u64 (s.s0 : Int), .int .u64 (s.s1 : Int), .int .u64 (s.s2 : Int), .int .u64 (s.s3 : Int)] 28)).alloc (.cells zs 67)).alloc (.cells zs 67)) cs #[.int .u64 (s.s0 : Int), .int .u64 (s.s1 : Int), .int .u64 (s.s2 : Int), .int .u64 (s.s3 : Int)] of s 0 zs zs) :=
    ⟨((((Below.refl _ _).alloc (Nat.le_refl _) _).alloc (by simp) _).alloc (by simp; omega) _).alloc (by simp; omega) _, (((Blk.new _ _ _).alloc _).alloc _).alloc _, ((Blk.new_at _ _ _ _ (by simp)).alloc _).alloc _, (Blk.new_at _ _ _ _ (by simp)).alloc _, Blk.new_at _ _ _ _ (by simp), by rw [HZ.out]; exact Side.start of s true, by rw [HZ.out]; exact Side.start of s false, fun ⟨i, hi, _⟩ => Nat.not_lt_zero _ hi⟩
  generalize ((((w.alloc (.cells cs 25)).alloc (.cells #[.int .u64 (s.s0 : Int), .int .u64 (s.s1 : Int), .int .u64 (s.s2 : Int), .int .u64 (s.s3 : Int)] 28)).alloc (.cells zs 67)).alloc (.cells zs 67)) = W0 at *
  have HPB : Hid (∀ m, m ≤ 256 → PartsTo of s m → partsB of s = true) := fun m hm h => decide_eq_true (h.mono hm)
  have HPN : Hid (¬ PartsTo of s 256 → partsB of s = false) := fun h => decide_eq_false h
  have HO := Lib.hid ho
  clear hz ho hs
  go_loopw [9] (fun i wr => ∃ k : Nat, k ≤ 256 ∧ i = .int .i64 k ∧ ∃ a b, Hid (PaMem w wr cs #[.int .u64 (s.s0 : Int), .int .u64 (s.s1 : Int), .int .u64 (s.s2 : Int), .int .u64 (s.s3 : Int)] of s k a b)) (fun i _ => 256 - (intOf i).toNat)
  case atStart => exact ⟨0, by omega, rfl, zs, zs, HP0.out⟩
  case round =>
    obtain ⟨k, hk, rfl, a, b, HP⟩ := hrel
    by_cases hlt : k < 256
    · have hko : k < of.length := by rw [HO.out]; exact hlt
      obtain ⟨c, hc⟩ : ∃ c, c = (of.getD k 0).toNat := ⟨_, rfl⟩
      have hc256 : c < 256 := by rw [hc]; exact UInt8.toNat_lt _
      have b0 : wr.cell? ⟨w.heap.size, k, none⟩ = some (.int .u8 (c : Int)) := by
        rw [HP.out.cl.cell, ← HC.out, List.getElem?_toArray, clCells_at of many k hko, hc, List.getD_eq_getElem?_getD, List.getElem?_eq_getElem hko]
        rfl
      have t0 := HP.out.st.cell 0
      have t1 := HP.out.st.cell 1
      have t2 := HP.out.st.cell 2
      have t3 := HP.out.st.cell 3
      simp at t0 t1 t2 t3
      obtain ⟨B, hB⟩ : ∃ B, B = inS s k := ⟨_, rfl⟩
      have HHB := Lib.hid (HHAS.out k hlt wr)
      rw [← hB] at HHB
      have HBE := Lib.hid hB
      have HCE := Lib.hid hc
      have HA : Hid (∀ d, SideTo of s k d c = SideTo of s k d c) := fun _ => rfl
      clear hB hc HP0 HHAS hko
      cases B with
      | true =>
        obtain ⟨P, hP⟩ : ∃ P, P = SideTo of s k false c := ⟨_, rfl⟩
        have HPE := Lib.hid hP
        clear hP
        go_wp2_with (go_at_call 37; refine HHB.out.mono ?_)
        rintro e w5 rfl hb5
        have hp5 := HP.out.later hb5
        have HP5 := Lib.hid hp5
        have e1 : w5.cell? ⟨w.heap.size + 1 + 1, c, none⟩ = some (.bool (SideTo of s k true c)) := (hp5.bi.cell c).trans (hp5.ins.at_ c hc256)
        have e2 : w5.frozen? ⟨w.heap.size + 1 + 1, c, none⟩ = false := hp5.bi.frozen c
        have g1 : (w5.setCell ⟨w.heap.size + 1 + 1, c, none⟩ (.bool true)).cell? ⟨w.heap.size + 1 + 1, c, none⟩ = some (.bool true) := by
          rw [(hp5.bi.set_ c (.bool true)).cell c, Array.getElem?_setIfInBounds_self_of_lt (by rw [hp5.ins.size]; exact hc256)]
        have g2 : (w5.setCell ⟨w.heap.size + 1 + 1, c, none⟩ (.bool true)).cell? ⟨w.heap.size + 1 + 1 + 1, c, none⟩ = some (.bool P) := by
          rw [(hp5.bo.other (p := ⟨w.heap.size + 1 + 1, c, none⟩) (by show w.heap.size + 1 + 1 + 1 ≠ w.heap.size + 1 + 1; omega) (.bool true)).cell c, HPE.out]
          exact hp5.outs.at_ c hc256
        clear hp5 hb5
        cases P with
        | true =>
          have HR : Hid (partsB of s = true) := HPB.out (k + 1) hlt ((PartsTo_succ of s k).2 (.inr (by rw [← HBE.out, ← HCE.out]; exact HPE.out.symm)))
          have HL : Hid (Below w.heap.size w (w5.setCell ⟨w.heap.size + 1 + 1, c, none⟩ (.bool true))) := HP5.out.low.setCell (p := ⟨w.heap.size + 1 + 1, c, none⟩) (by show w.heap.size ≤ w.heap.size + 1 + 1; omega) _
          go_wp2
          go_ret
          exact ⟨ret_bool HR.out.symm, HL.out⟩
        | false =>
          have HN : Hid (PaMem w (w5.setCell ⟨w.heap.size + 1 + 1, c, none⟩ (.bool true)) cs #[.int .u64 (s.s0 : Int), .int .u64 (s.s1 : Int), .int .u64 (s.s2 : Int), .int .u64 (s.s3 : Int)] of s (k + 1) (a.setIfInBounds c (.bool true)) b) := by
            have := HP5.out.in_ HBE.out.symm (by rw [← HCE.out]; exact HPE.out.symm)
            rw [← HCE.out] at this
            exact this
          go_wp2
          go_roundw
          case rel => exact ⟨k + 1, by omega, by go_num, _, _, HN⟩
          case measure => simp [intOf]; omega
      | false =>
        obtain ⟨P, hP⟩ : ∃ P, P = SideTo of s k true c := ⟨_, rfl⟩
        have HPE := Lib.hid hP
        clear hP
        go_wp2_with (go_at_call 37; refine HHB.out.mono ?_)
        rintro e w5 rfl hb5
        have hp5 := HP.out.later hb5
        have HP5 := Lib.hid hp5
        have e1 : w5.cell? ⟨w.heap.size + 1 + 1 + 1, c, none⟩ = some (.bool (SideTo of s k false c)) := (hp5.bo.cell c).trans (hp5.outs.at_ c hc256)
        have e2 : w5.frozen? ⟨w.heap.size + 1 + 1 + 1, c, none⟩ = false := hp5.bo.frozen c
        have g1 : (w5.setCell ⟨w.heap.size + 1 + 1 + 1, c, none⟩ (.bool true)).cell? ⟨w.heap.size + 1 + 1 + 1, c, none⟩ = some (.bool true) := by
          rw [(hp5.bo.set_ c (.bool true)).cell c, Array.getElem?_setIfInBounds_self_of_lt (by rw [hp5.outs.size]; exact hc256)]
        have g2 : (w5.setCell ⟨w.heap.size + 1 + 1 + 1, c, none⟩ (.bool true)).cell? ⟨w.heap.size + 1 + 1, c, none⟩ = some (.bool P) := by
          rw [(hp5.bi.other (p := ⟨w.heap.size + 1 + 1 + 1, c, none⟩) (by show w.heap.size + 1 + 1 ≠ w.heap.size + 1 + 1 + 1; omega) (.bool true)).cell c, HPE.out]
          exact hp5.ins.at_ c hc256
        clear hp5 hb5
        cases P with
        | true =>
          have HR : Hid (partsB of s = true) := HPB.out (k + 1) hlt ((PartsTo_succ of s k).2 (.inr (by rw [← HBE.out, ← HCE.out]; exact HPE.out.symm)))
          have HL : Hid (Below w.heap.size w (w5.setCell ⟨w.heap.size + 1 + 1 + 1, c, none⟩ (.bool true))) := HP5.out.low.setCell (p := ⟨w.heap.size + 1 + 1 + 1, c, none⟩) (by show w.heap.size ≤ w.heap.size + 1 + 1 + 1; omega) _
          go_wp2
          go_ret
          exact ⟨ret_bool HR.out.symm, HL.out⟩
        | false =>
          have HN : Hid (PaMem w (w5.setCell ⟨w.heap.size + 1 + 1 + 1, c, none⟩ (.bool true)) cs #[.int .u64 (s.s0 : Int), .int .u64 (s.s1 : Int), .int .u64 (s.s2 : Int), .int .u64 (s.s3 : Int)] of s (k + 1) a (b.setIfInBounds c (.bool true))) := by
            have := HP5.out.out_ HBE.out.symm (by rw [← HCE.out]; exact HPE.out.symm)
            rw [← HCE.out] at this
            exact this
          go_wp2
          go_roundw
          case rel => exact ⟨k + 1, by omega, by go_num, _, _, HN⟩
          case measure => simp [intOf]; omega
    · obtain rfl : k = 256 := by omega
      have HR : Hid (partsB of s = false) := HPN.out HP.out.no
      go_wp2
      go_ret
      exact ⟨ret_bool HR.out.symm, HP.out.low⟩
end Go.Proofs.Ytlaccbkhlkomhaa
