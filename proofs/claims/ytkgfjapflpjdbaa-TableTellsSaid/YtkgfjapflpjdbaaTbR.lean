/-
  The contract of slices.Chunk's iterator, at bytes whose number the width divides. Conditions: the bytes lie in memory.
-/
import Derived.Test.YtkgfjapflpjdbaaTbQ
import Derived.RangeFuncBox
import Derived.RangeFuncLeaves
import Derived.RangeFuncNested
import Derived.RangeFuncBound
import Derived.RangeFuncCalls
import Derived.Shelf.RegionOpen
import Derived.OwnWalkIn
import Derived.TacticsInMore
import Derived.LoopNIn
import Derived.LoopIn
import Derived.Maps.OwnIn
namespace Go.Proofs.Ytkgfjapflpjdbaa
open Go.RowKit Go.Shelf

attribute [local go_sem] Oper.semAt_some

/-- two blocks stay -/
def KeepP (Bs Bn : Nat) (W W' : World) : Prop := W'.heap[Bs]? = W.heap[Bs]? ∧ W'.heap[Bn]? = W.heap[Bn]?
theorem KeepP.refl (Bs Bn : Nat) (W : World) : KeepP Bs Bn W W := ⟨rfl, rfl⟩
theorem KeepP.trans {Bs Bn : Nat} {A B C : World} (h : KeepP Bs Bn A B) (k : KeepP Bs Bn B C) : KeepP Bs Bn A C := ⟨k.1.trans h.1, k.2.trans h.2⟩
theorem KeepP.drewN (Bs Bn : Nat) (w : World) : ∀ n, KeepP Bs Bn w (w.drewN n)
  | 0 => KeepP.refl _ _ _
  | n + 1 => (KeepP.drewN Bs Bn w n).trans ⟨rfl, rfl⟩
theorem KeepP.grown {Bs Bn : Nat} {W W' : World} {row : Option Nat} (hg : W.grownBy W' row) (h1 : Bs < W.heap.size) (h2 : Bn < W.heap.size) (h3 : some Bs ≠ row) (h4 : some Bn ≠ row) : KeepP Bs Bn W W' := ⟨hg.block Bs h1 h3, hg.block Bn h2 h4⟩
theorem KeepP.put {Bs Bn : Nat} {w : World} (h1 : Bs < w.heap.size) (h2 : Bn < w.heap.size) (W : World) (l : Nat) (o o' : Obj) (hl : w.heap.size ≤ l) (h : W.heap[l]? = some o) (_ : o.isCells = false) (_ : o.isWalk = false) : KeepP Bs Bn W (W.putObj l o') :=
  KeepP.grown (grownBy_putObj' W l o') (by have := (Array.getElem?_eq_some_iff.1 h).1; omega) (by have := (Array.getElem?_eq_some_iff.1 h).1; omega) (fun e => by injection e with e; omega) (fun e => by injection e with e; omega)
theorem KeepP.cs {Bs Bn : Nat} {W W' : World} (h : KeepP Bs Bn W W') (j : Nat) : W'.cell? ⟨Bs, j, none⟩ = W.cell? ⟨Bs, j, none⟩ := World.cell?_of_block h.1
theorem KeepP.cn {Bs Bn : Nat} {W W' : World} (h : KeepP Bs Bn W W') (j : Nat) : W'.cell? ⟨Bn, j, none⟩ = W.cell? ⟨Bn, j, none⟩ := World.cell?_of_block h.2
/-- the first places -/
def finUp (q : Nat) : (k : Nat) → k ≤ q → List (Fin q)
  | 0, _ => []
  | k + 1, h => finUp q k (by omega) ++ [⟨k, by omega⟩]
theorem finUp_len (q : Nat) : ∀ k h, (finUp q k h).length = k
  | 0, _ => rfl
  | k + 1, h => by simp [finUp, finUp_len q k]
/-- what is handed on in a round -/
def chunkV (g off wd : Nat) (k : Nat) : Value := .slice (some ⟨g, off + k * wd, none⟩) wd wd
set_option maxRecDepth 100000 in
set_option maxHeartbeats 1000000 in
theorem chunk_any (a : Option Addr) (len c wd : Nat) (hw : 1 ≤ wd) (w : World) :
    Calls Try.prog 47 #[.slice a len c, .int .i64 (wd : Int)] w fun e w' => e = .returned (.func (.func 48) #[] #[.pointer (some ⟨w.heap.size, 0, none⟩), .pointer (some ⟨w.heap.size + 1, 0, none⟩)]) ∧
      w' = (w.alloc (.cells #[.slice a len c] 31)).alloc (.cells #[.int .i64 (wd : Int)] 3) := by
  have hw1 : ¬ (wd : Int) < 1 := by omega
  go_enter Try.func47, Try.ntmps47
  go_wp2
  go_ret
  exact ⟨rfl, rfl⟩
theorem grownBy_drewN (w : World) : ∀ n, w.grownBy (w.drewN n) none
  | 0 => ⟨rfl, rfl, rfl, Nat.le_refl _, fun _ _ _ => rfl⟩
  | n + 1 => by
    have h := grownBy_drewN w n
    exact ⟨h.os, h.tape, h.output, h.size, h.block⟩
set_option maxRecDepth 100000 in
set_option maxHeartbeats 4000000 in
theorem chunk1_in (n : Nat) (hn : 1 ≤ n) (l Bs Bn g off c wd q : Nat) (a : Option Addr) (ha : 0 < q → a = some ⟨g, off, none⟩) (hw : 1 ≤ wd) (hw2 : wd ≤ 2) (hq : q ≤ 100000000) (hc : q * wd ≤ c) (hcm : c ≤ maxLen) (J Jx : List (Fin q) → World → Prop)
    (hY : ∀ pre x W, J pre W → pre.length < q → YieldAt Fence.wide (n - 1) Try.prog l #[chunkV g off wd x.val] W fun e W' =>
      (e = .returned (.bool true) ∧ J (pre ++ [x]) W' ∧ KeepP Bs Bn W W') ∨ (e = .returned (.bool false) ∧ Jx (pre ++ [x]) W'))
    (W : World) (hJ : AbidesFrom W.heap.size J) (hBs : W.cell? ⟨Bs, 0, none⟩ = some (.slice a (q * wd) c)) (hBn : W.cell? ⟨Bn, 0, none⟩ = some (.int .i64 (wd : Int))) (h0 : J [] W) :
    CallsIn Fence.wide n Try.prog 48 #[.func (.yield l) #[] #[], .pointer (some ⟨Bs, 0, none⟩), .pointer (some ⟨Bn, 0, none⟩)] W fun e W' => (∃ v, e = .returned v) ∧
      ((∃ ys, ys = finUp q q (Nat.le_refl _) ∧ J ys W') ∨ (∃ pre, (∃ k, ∃ h : k ≤ q, pre = finUp q k h) ∧ Jx pre W')) := by
  unfold maxLen at hcm
  refine callsIn_of_wp Try.func48 rfl trivial ?_ rfl
  simp only [Try.ntmps48, List.size_toArray, List.length_cons, List.length_nil, Nat.reduceAdd, Nat.reduceSub, Array.replicate_succ, Array.replicate_zero, List.push_toArray, List.append_toArray, List.nil_append, List.cons_append]
  gi_wp2
  gi_loopw [4] (fun i wr => ∃ (k : Nat) (h : k ≤ q), i = .int .i64 ((k * wd : Nat) : Int) ∧ J (finUp q k h) wr ∧ KeepP Bs Bn W wr)
    (fun i _ => q * wd - (intOf i).toNat)
  case atStart => exact ⟨0, Nat.zero_le _, by simp, h0, KeepP.refl _ _ _⟩
  case round =>
    obtain ⟨k, hk, rfl, hJs, hnx⟩ := hrel
    have c1 : wr.cell? ⟨Bs, 0, none⟩ = some (.slice a (q * wd) c) := (hnx.cs 0).trans hBs
    have c2 : wr.cell? ⟨Bn, 0, none⟩ = some (.int .i64 (wd : Int)) := (hnx.cn 0).trans hBn
    have HMK : Hid ((k + 1) * wd = k * wd + wd) := Nat.succ_mul k wd
    have HML : Hid (k < q → k * wd + wd ≤ q * wd) := fun h => by rw [← HMK.out]; exact Nat.mul_le_mul_right _ h
    have HMX : Hid (q * wd ≤ 200000000) := Nat.le_trans (Nat.mul_le_mul hq hw2) (by decide)
    have HK := Lib.hid hk
    by_cases hlt : k < q
    · obtain rfl := ha (by omega)
      clear ha
      have hb1 := HML.out hlt
      have hmx := HMX.out
      have HY : Hid (∀ nq, ∃ fn tmps assign body, (Instr.yield l #[.slice (some ⟨g, off + k * wd, none⟩) wd wd]).run Try.prog (wr.drewN nq) = .ok (.round l fn tmps assign body) (wr.drewN nq) ∧ RoundIn Fence.wide (n - 1) Try.prog l fn tmps assign body (wr.drewN nq) fun e W' =>
          (e = .returned (.bool true) ∧ J (finUp q k hk ++ [⟨k, hlt⟩]) W' ∧ KeepP Bs Bn (wr.drewN nq) W') ∨ (e = .returned (.bool false) ∧ Jx (finUp q k hk ++ [⟨k, hlt⟩]) W')) := fun nq =>
        hY _ ⟨k, hlt⟩ (wr.drewN nq) (hJ _ _ _ none hJs (grownBy_drewN wr nq) (fun r e => by cases e)) (by rw [finUp_len]; exact hlt)
      have HNX := Lib.hid hnx
      have hmx0 : Try.prog.follows .mixedOrders = true := by kernel_rfl
      have HFU : Hid (finUp q (k + 1) hlt = finUp q k (Nat.le_of_lt hlt) ++ [⟨k, hlt⟩]) := show _ = _ from rfl
      clear hnx hY hJ hJs hBs hBn h0 HML HMX HK
      generalize hM : q * wd = M at *
      generalize hi : k * wd = i at *
      have hsl1 : ∀ W, (Instr.slice 31 (.slice (some ⟨g, off, none⟩) M c) (some (.int .i64 (i : Int))) none none).run Try.prog W = .ok (.slice (if c = i then some ⟨g, off, none⟩ else some ((⟨g, off, none⟩ : Addr).add i)) (M - i) (c - i)) W := fun W => by
        rw [run_slice_l W 31 _ _ _ (by kernel_rfl) .i64 (i : Int) (by omega) (by omega)]
        have : ∀ W, (sizeOf (Try.prog.elem 31)).run Try.prog W = .ok 1 W := fun W => by kernel_rfl
        rw [this]
        unfold sliced
        simp [Result.andThen]
      have hsl3 : ∀ W, (Instr.slice 31 (.slice (some ⟨g, off, none⟩) M c) (some (.int .i64 (i : Int))) (some (.int .i64 ((i : Int) + (wd : Int)))) (some (.int .i64 ((i : Int) + (wd : Int))))).run Try.prog W = .ok (.slice (some ⟨g, off + i, none⟩) wd wd) W := fun W => by
        rw [run_slice_lhm W 31 _ _ _ (by kernel_rfl) .i64 .i64 .i64 (i : Int) ((i : Int) + (wd : Int)) ((i : Int) + (wd : Int)) (by omega) (by omega) (by omega) (by omega)]
        have : ∀ W, (sizeOf (Try.prog.elem 31)).run Try.prog W = .ok 1 W := fun W => by kernel_rfl
        rw [this]
        unfold sliced
        have e1 : ((i : Int) + (wd : Int)).toNat = i + wd := by omega
        simp [Result.andThen, e1, Addr.add_mid]
        omega
      generalize (if c = i then some (⟨g, off, none⟩ : Addr) else some ((⟨g, off, none⟩ : Addr).add i)) = ad at *
      have hmin : min (wd : Int) ((M - i : Nat) : Int) = (wd : Int) := by omega
      have hz0 : (0 : Int) ≤ i := by omega
      have hz1 : (i : Int) < M := by omega
      gi_wp2
      gi_big_quiet_th_o (fail)
      obtain ⟨fn, tmps, assign, body, hy, hR⟩ := HY.out nq
      gi_wp2
      refine hR.mono ?_
      rintro e W3 (⟨rfl, hJ3, hk3⟩ | ⟨rfl, hJx3⟩)
      · have HB3 : Hid (KeepP Bs Bn W W3) := (HNX.out.trans (KeepP.drewN Bs Bn wr nq)).trans hk3
        have c2' : W3.cell? ⟨Bn, 0, none⟩ = some (.int .i64 (wd : Int)) := (((KeepP.drewN Bs Bn wr nq).trans hk3).cn 0).trans c2
        have HJ3 : Hid (J (finUp q (k + 1) hlt) W3) := by show J _ _; rw [HFU.out]; exact hJ3
        clear hJ3 hk3
        gi_wp2
        go_roundw
        case rel => exact ⟨k + 1, hlt, by rw [HMK.out, Int.natCast_add], HJ3.out, HB3.out⟩
        case measure => simp [intOf]; omega
      · gi_wp2
        refine bodyPost_ret (results_none rfl _ _ _) rfl ?_
        exact ⟨⟨_, rfl⟩, .inr ⟨_, ⟨k + 1, hlt, HFU.out.symm⟩, hJx3⟩⟩
    · obtain rfl : k = q := by omega
      have hmx := HMX.out
      clear HML HMK HMX HK hnx hY hJ hBs hBn h0 hc
      generalize k * wd = M at *
      gi_wp2
      go_end0
      exact ⟨⟨_, rfl⟩, .inl ⟨_, rfl, hJs⟩⟩
/-- the iterator's contract -/
theorem chunk_stops (n : Nat) (hn : 1 ≤ n) (Bs Bn g off c wd q : Nat) (a : Option Addr) (ha : 0 < q → a = some ⟨g, off, none⟩) (hw : 1 ≤ wd) (hw2 : wd ≤ 2) (hq : q ≤ 100000000) (hc : q * wd ≤ c) (hcm : c ≤ maxLen) (w : World) (h1 : Bs < w.heap.size) (h2 : Bn < w.heap.size)
    (hBs : w.cell? ⟨Bs, 0, none⟩ = some (.slice a (q * wd) c)) (hBn : w.cell? ⟨Bn, 0, none⟩ = some (.int .i64 (wd : Int))) :
    SeqStopsK Fence.wide n Try.prog 48 #[.pointer (some ⟨Bs, 0, none⟩), .pointer (some ⟨Bn, 0, none⟩)] (fun x : Fin q => #[chunkV g off wd x.val]) (KeepP Bs Bn) (fun ys => ys = finUp q q (Nat.le_refl _)) (fun pre => ∃ k, ∃ h : k ≤ q, pre = finUp q k h) q w := fun l J Jx W hW hJ _ hY h0 =>
  chunk1_in n hn l Bs Bn g off c wd q a ha hw hw2 hq hc hcm J Jx hY W hJ ((hW.cell (p := ⟨Bs, 0, none⟩) h1).trans hBs) ((hW.cell (p := ⟨Bn, 0, none⟩) h2).trans hBn) h0
end Go.Proofs.Ytkgfjapflpjdbaa
