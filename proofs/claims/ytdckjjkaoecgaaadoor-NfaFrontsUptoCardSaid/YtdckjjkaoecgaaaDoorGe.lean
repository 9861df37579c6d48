/-
  The contract of slices.Backward at a row of ints: from the last to the first. Conditions: at most 1000000000 elements.
-/
import Derived.Test.YtdckjjkaoecgaaaDoorRnL
namespace Go.Proofs.YtdckjjkaoecgaaaDoor
open Go.RowKit Go.Shelf

attribute [local go_sem] Oper.semAt_some

/-- the first k that come: place and element -/
def bwd (L : List Int) : Nat → List (Nat × Int)
  | 0 => []
  | k + 1 => bwd L k ++ [(L.length - 1 - k, L.getD (L.length - 1 - k) 0)]
theorem bwd_len (L : List Int) : ∀ k, (bwd L k).length = k
  | 0 => rfl
  | k + 1 => by rw [bwd, List.length_append, bwd_len L k]; rfl
/-- a row of ints, where nothing writes -/
def IntRow (W : World) (X : Nat → Prop) (a : Option Addr) (L : List Int) : Prop :=
  L = [] ∨ ∃ g off cs, a = some ⟨g, off, none⟩ ∧ Blk W g 3 cs ∧ ¬ X g ∧ ∀ j, j < L.length → cs[off + j]? = some (.int .i64 (L.getD j 0))
theorem KeepX.blk {X : Nat → Prop} {W W' : World} (h : KeepX X W W') {g : Nat} {t : TypeId} {cs : Array Value} (hx : ¬ X g) (hb : Blk W g t cs) : Blk W' g t cs := h.same g cs t _ hx hb
theorem IntRow.keep {X : Nat → Prop} {W W' : World} {a : Option Addr} {L : List Int} (h : IntRow W X a L) (k : KeepX X W W') : IntRow W' X a L := by
  rcases h with h | ⟨g, off, cs, e, hb, hx, hc⟩
  · exact .inl h
  · exact .inr ⟨g, off, cs, e, k.blk hx hb, hx, hc⟩
set_option maxRecDepth 100000 in
set_option maxHeartbeats 4000000 in
theorem backward1_in (n : Nat) (hn : 1 ≤ n) (l Bx : Nat) (L : List Int) (q : Nat) (hq : L.length = q) (hq2 : q ≤ 1000000000) (a : Option Addr) (c : Nat) (X : Nat → Prop) (J Jx : List (Nat × Int) → World → Prop) (W : World) (hbx : Blk W Bx 35 #[.slice a q c]) (hXb : ¬ X Bx) (hrow : IntRow W X a L)
    (hY : ∀ pre (x : Nat × Int) W1, J pre W1 → pre.length < q → YieldAt Fence.wide (n - 1) Tryd.prog l #[.int .i64 (x.1 : Int), .int .i64 x.2] W1 fun e W' =>
      (e = .returned (.bool true) ∧ J (pre ++ [x]) W' ∧ KeepX X W1 W') ∨ (e = .returned (.bool false) ∧ Jx (pre ++ [x]) W'))
    (h0 : J [] W) :
    CallsIn Fence.wide n Tryd.prog 66 #[.func (.yield l) #[] #[], .pointer (some ⟨Bx, 0, none⟩)] W fun e W' => (∃ v, e = .returned v) ∧
      ((∃ ys, ys = bwd L q ∧ J ys W') ∨ (∃ pre, True ∧ Jx pre W')) := by
  have b0 := hbx.cell 0
  simp at b0
  refine callsIn_of_wp Tryd.func66 rfl trivial ?_ rfl
  simp only [Tryd.ntmps66, List.size_toArray, List.length_cons, List.length_nil, Nat.reduceAdd, Nat.reduceSub, Array.replicate_succ, Array.replicate_zero, List.push_toArray, List.append_toArray, List.nil_append, List.cons_append]
  have HBX := Lib.hid hbx
  have HROW := Lib.hid hrow
  have HY := Lib.hid hY
  have H0 := Lib.hid h0
  have HX := Lib.hid hXb
  have HQ := Lib.hid hq
  clear hbx hrow hY h0 hXb hq
  gi_wp2
  gi_loopw [3] (fun v wr => ∃ k, k ≤ q ∧ v = .int .i64 ((q : Int) - 1 - k) ∧ Hid (J (bwd L k) wr) ∧ Hid (KeepX X W wr)) (fun v _ => (intOf v + 1).toNat)
  case atStart => exact ⟨0, Nat.zero_le _, by simp, H0.out, KeepX.refl _ _⟩
  case round =>
    obtain ⟨k, hk, rfl, HJ, HK⟩ := hrel
    by_cases hlt : k < q
    · obtain ⟨i, hi⟩ : ∃ i, i = q - 1 - k := ⟨_, rfl⟩
      have hii : (q : Int) - 1 - k = (i : Int) := by omega
      rw [hii]
      have hi0 : (0 : Int) ≤ i := by omega
      have hiq : i < q := by omega
      have hiq' : (i : Int) < q := by omega
      obtain ⟨v, hv⟩ : ∃ v, v = L.getD i 0 := ⟨_, rfl⟩
      obtain ⟨g, off, cs, rfl, hgb, hgx, hgc⟩ : ∃ g off cs, a = some ⟨g, off, none⟩ ∧ Blk wr g 3 cs ∧ ¬ X g ∧ ∀ j, j < L.length → cs[off + j]? = some (.int .i64 (L.getD j 0)) := by
        rcases HROW.out.keep HK.out with h | h
        · have := HQ.out
          rw [h] at this
          simp at this
          omega
        · exact h
      have c1 : wr.cell? ⟨g, off + i, none⟩ = some (.int .i64 v) := by rw [hgb.cell (off + i), hv]; exact hgc i (by have := HQ.out; omega)
      have c0 := (HK.out.blk HX.out HBX.out).cell 0
      simp at c0
      have hp := hgb
      have HI : Hid (i = q - 1 - k ∧ v = L.getD i 0) := ⟨hi, hv⟩
      have hY2 := HY.out (bwd L k) (i, v) wr HJ.out (by rw [bwd_len]; exact hlt)
      obtain ⟨fn, tmps, assign, body, hy, hR⟩ := hY2
      simp only at hy hR
      clear hi hv hgb hgx hgc hii hp
      gi_wp2
      refine hR.mono ?_
      rintro e W3 (⟨rfl, hJ3, hk3⟩ | ⟨rfl, hJx3⟩)
      · have c3 := ((HK.out.trans hk3).blk HX.out HBX.out).cell 0
        simp at c3
        have HJ3 := Lib.hid hJ3
        have HK3 := Lib.hid (HK.out.trans hk3)
        clear hR hy hJ3 hk3
        gi_wp2
        refine ⟨⟨k + 1, hlt, ?_, ?_, HK3.out⟩, ?_⟩
        · have h1 := HI.out.1
          rw [show (i : Int) - 1 = (q : Int) - 1 - ((k + 1 : Nat) : Int) from by omega]
        · have h1 : J (bwd L k ++ [(i, v)]) W3 := HJ3.out
          rw [HI.out.1, HI.out.2, HI.out.1, ← HQ.out] at h1
          exact h1
        · show ((i : Int) - 1 + 1).toNat < ((i : Int) + 1).toNat
          omega
      · clear hR hy
        gi_wp2
        refine bodyPost_ret (results_none rfl _ _ _) rfl ?_
        exact ⟨⟨_, rfl⟩, .inr ⟨_, trivial, hJx3⟩⟩
    · have hkk : k = q := by omega
      subst hkk
      have hm : (k : Int) - 1 - k = -1 := by omega
      rw [hm]
      gi_wp2
      go_end0
      exact ⟨⟨_, rfl⟩, .inl ⟨_, rfl, HJ.out⟩⟩
/-- the iterator's contract, in the caller's form -/
theorem backward_seq (n : Nat) (hn : 1 ≤ n) (Bx : Nat) (L : List Int) (q : Nat) (hq : L.length = q) (hq2 : q ≤ 1000000000) (a : Option Addr) (c : Nat) (X : Nat → Prop) (w : World) (hbx : Blk w Bx 35 #[.slice a q c]) (hXb : ¬ X Bx) (hrow : IntRow w X a L) :
    SeqStopsK Fence.wide n Tryd.prog 66 #[.pointer (some ⟨Bx, 0, none⟩)] (fun x : Nat × Int => #[.int .i64 (x.1 : Int), .int .i64 x.2]) (KeepX X) (fun ys => ys = bwd L q) (fun _ => True) q w :=
  fun l J Jx W hW _ _ hY h0 => backward1_in n hn l Bx L q hq hq2 a c X J Jx W (hbx.below hW hbx.lt) hXb (hrow.keep (KeepX.of_below hW)) (fun pre x W1 h1 h3 => hY pre x W1 h1 h3) h0
set_option maxRecDepth 100000 in
theorem backward_any (a : Option Addr) (q c : Nat) (w : World) :
    Calls Tryd.prog 53 #[.slice a q c] w fun e w' => e = .returned (.func (.func 66) #[] #[.pointer (some ⟨w.heap.size, 0, none⟩)]) ∧ w' = w.alloc (.cells #[.slice a q c] 35) := by
  go_enter Tryd.func53, Tryd.ntmps53
  go_wp2
  go_ret
  exact ⟨rfl, rfl⟩
end Go.Proofs.YtdckjjkaoecgaaaDoor
