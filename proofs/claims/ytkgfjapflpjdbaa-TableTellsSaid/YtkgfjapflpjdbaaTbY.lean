/-
  append of so many zeros to a full slice of bytes: a new row; the contract of frankinglaw10.Same where both sides are the same. Conditions: the tables lie in memory; the classes compare as equal.
-/
import Derived.Test.YtkgfjapflpjdbaaTbX
import Derived.DeepKeys
namespace Go.Proofs.Ytkgfjapflpjdbaa
open Go.RowKit
theorem run_append_full_zeros {P : Program} (w : World) (base : Nat) (t tn ty e : TypeId) (i : TypeInfo) (z : Value) (k kn : IntKind) (ht : P.underlying t = some (.slice e)) (htn : P.underlying tn = some (.int kn)) (hi : P.info? e = some i) (hz : i.zero = some z)
    (hsize : i.size = 1) (hby : i.bytes = 1) (hzs : z.cells.size = 1)
    (g n : Nat) (xs : List Value) (hxl : xs.length = n) (holds : ∀ j u, xs[j]? = some u → w.cell? ((⟨g, 0, none⟩ : Addr).add j) = some u)
    (m : Nat) (news : List Value) (hl : news.length = m) (hm : 0 < m) (hzc : (Builtin.zeroCells z.cells m).toList = news)
    (h63 : n + m ≤ maxLen) (hbytes : n + m ≤ 140737488355328) (hbase : base ≤ w.heap.size) :
    ∃ v' w', (Builtin.append_ #[t, tn] ty #[.slice (some ⟨g, 0, none⟩) n n, .int k m]).run P w = .ok v' w' ∧ w'.ownsRow base e 1 v' (n + m) (xs ++ news) ∧ w.grownBy w' none := by
  have hlen : (xs ++ news).length = (n + m) * 1 := by rw [List.length_append, hxl, hl, Nat.mul_one]
  have hm0 : m ≠ 0 := by omega
  have hw : IntKind.i64.wrap (m : Int) = m := by rw [IntKind.wrap_i64]; omega
  have hneg : ¬ ((m : Int) < 0) := by omega
  have h48i : ¬ (281474976710656 < (m : Int)) := by omega
  have hn : ¬ (n + m ≤ n) := by omega
  have h63' : ¬ (9223372036854775807 < ((n : Int) + (m : Int))) := by omega
  have h48' : ¬ (281474976710656 < Builtin.nextslicecap (n + m) n) := by
    have := growslice_fits (need := n + m) (old := n) (bytes := 1) (by omega) (by omega)
    omega
  have hfo := run_firstCells_some (P := P) w.drew 1 n ⟨g, 0, none⟩ n n xs (by rw [hxl, Nat.mul_one]) (by simpa using holds)
  have hr : (Builtin.append_ #[t, tn] ty #[.slice (some ⟨g, 0, none⟩) n n, .int k m]).run P w = .ok (.slice (some ⟨w.heap.size, 0, none⟩) (n + m) (grownCap w (n + m) n e)) (w.drew.alloc (.cells (xs.toArray ++ Builtin.zeroCells z.cells m ++ Builtin.zeroCells z.cells (grownCap w (n + m) n e - (n + m))) e)) := by
    simp [Builtin.append_, run_underlying ht, run_underlying htn, sizeOf, typeInfo, zeroValue, hi, hz, hsize, hby, asInt, asIntOf, hw, hm0, hneg, hn, h63', h48', h48i, Question.forced, hfo, newRow, grownCap]
  refine ⟨_, _, hr, ⟨hlen, .inr ⟨w.heap.size, _, _, rfl, hbase, heap_alloc_new w.drew _, grownCap_ge w (n + m) n e, grownCap_le_maxLen w (n + m) n e h63, ?_, ?_⟩⟩, ⟨rfl, rfl, rfl, by simp, fun k hk _ => heap_alloc_old w.drew _ hk⟩⟩
  · have := grownCap_ge w (n + m) n e
    simp only [Array.size_append, List.size_toArray, size_zeroCells, hzs, hxl, Nat.mul_one]
    omega
  · simp only [Array.toList_append, List.append_assoc, hzc]
    rw [← List.append_assoc, ← hlen]
    exact List.take_left

noncomputable def EqOp (t : TypeId) (x y : Value) : Sem Value := binOp .eql t x y
theorem eqOp_C (x y : Value) : binOp .eql 24 x y = EqOp 24 x y := rfl
attribute [local go_sem ↓] loadOp_C loadOp_T eqOp_C
set_option maxRecDepth 100000 in
set_option maxHeartbeats 1000000 in
theorem same_refl (t : Tab) (p p2 : Lie) (C : Array Value) (hC : (clCells t.of t.many).toArray = C) (w : World) (h : TabAt w t p) (h2 : TabAt w t p2) (heq : ∀ W, (EqOp 24 (.agg C) (.agg C)).run Try.prog W = .ok (.bool true) W) :
    Calls Try.prog 17 #[.agg (tabCells t p).toArray, .agg (tabCells t p2).toArray] w fun e w' => e = .returned (.bool true) ∧ Below w.heap.size w w' := by
  obtain ⟨X1, hX1⟩ : ∃ X, (tabCells t p).toArray = X := ⟨_, rfl⟩
  obtain ⟨X2, hX2⟩ : ∃ X, (tabCells t p2).toArray = X := ⟨_, rfl⟩
  rw [hX1, hX2]
  have hb1 : Below w.heap.size w (w.alloc (.cells X1 30)) := (Below.refl _ _).alloc (Nat.le_refl _) _
  have hb2 : Below (w.alloc (.cells X1 30)).heap.size (w.alloc (.cells X1 30)) ((w.alloc (.cells X1 30)).alloc (.cells X2 30)) := (Below.refl _ _).alloc (Nat.le_refl _) _
  have i1 := TabIn.new h
  rw [hX1] at i1
  have i1 := i1.below hb2
  have i2 := TabIn.new (h2.below hb1)
  rw [hX2, World.size_alloc] at i2
  have HB : Hid (Below w.heap.size w ((w.alloc (.cells X1 30)).alloc (.cells X2 30))) := hb1.trans (hb2.mono (by simp))
  have HN : Hid (∀ W, Below ((w.alloc (.cells X1 30)).alloc (.cells X2 30)).heap.size ((w.alloc (.cells X1 30)).alloc (.cells X2 30)) W → W.cell? ⟨w.heap.size, 260, none⟩ = some (.slice p.ns t.names.length p.cs) ∧ W.cell? ⟨w.heap.size + 1, 260, none⟩ = some (.slice p2.ns t.names.length p2.cs) ∧ Calls Try.prog 31 #[.slice p.ns t.names.length p.cs, .slice p2.ns t.names.length p2.cs] W fun e w' => e = .returned (.bool true) ∧ Below W.heap.size W w') := fun W hb => ⟨(i1.below hb).names, (i2.below hb).names, texts_refl _ _ _ _ _ _ (i1.below hb).at_.names (i2.below hb).at_.names⟩
  have HM := Lib.hid (same8_refl t p p2 _ i1.at_ i2.at_)
  have r1 := i1.read
  have r2 := i2.read
  rw [hC] at r1 r2
  have f1 := r1.cls
  have f2 := r2.cls
  have f3 := r1.dmany
  have f4 := r2.dmany
  have f5 := r1.next
  have f6 := r2.next
  have f7 := r1.tags
  have f8 := r2.tags
  clear h h2 hb1 hb2 i1 i2 r1 r2 hX1 hX2 hC
  generalize hW : (w.alloc (.cells X1 30)).alloc (.cells X2 30) = W at *
  go_enter Try.func17, Try.ntmps17
  go_wp2_with (first
    | (go_at_call 30; refine HM.out.mono ?_; rintro e w2 ⟨rfl, hb2⟩; have HB2 := Lib.hid hb2; have q1 := (HN.out _ hb2).1; have q2 := (HN.out _ hb2).2.1; clear hb2)
    | (go_at_call 31; refine (HN.out _ HB2.out).2.2.mono ?_; rintro e w3 ⟨rfl, hb3⟩; have HB3 := Lib.hid hb3; clear hb3))
  go_ret
  exact ⟨rfl, (HB.out.trans (HB2.out.mono HB.out.size)).trans (HB3.out.mono (Nat.le_trans HB.out.size HB2.out.size))⟩
end Go.Proofs.Ytkgfjapflpjdbaa
