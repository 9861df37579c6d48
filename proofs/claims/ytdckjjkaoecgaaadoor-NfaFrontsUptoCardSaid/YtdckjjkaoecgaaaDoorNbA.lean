/-
  The contracts of (*nfa.maker).add and tooMany. Conditions: at most a million states.
-/
import Derived.Test.YtdckjjkaoecgaaaDoorNbM
import Derived.Deep.DeepCutAuto
import Derived.RangeFuncCalls
namespace Go.Proofs.YtdckjjkaoecgaaaDoor
open Go.RowKit

theorem below_drewNb {B : Nat} {a w : World} (h : Below B a w) : ∀ n, Below B a (w.drewN n)
  | 0 => h
  | n + 1 => (below_drewNb h n).drew
theorem blk_same {W : World} {g : Nat} {t t' : TypeId} {cs cs' : Array Value} (h : Blk W g t cs) (h' : Blk W g t' cs') : t = t' ∧ cs = cs' := by
  unfold Blk at h h'
  rw [h] at h'
  injection h' with h'
  injection h' with h1 h2
  exact ⟨h2, h1⟩
theorem own_cells {W : World} {B z n : Nat} {e : TypeId} {v : Value} {xs : List Value} (h : W.ownsRow B e z v n xs) {j : Nat} {o : Obj} (he : v.ownBlock = some j) (ho : W.heap[j]? = some o) : o.isCells = true := by
  rcases h.2 with ⟨e0, _⟩ | ⟨g, cap, cur, e0, _, hb, _⟩
  · rw [e0] at he
    cases he
  · rw [e0] at he
    have : g = j := by injection he
    subst this
    rw [show W.heap[g]? = _ from hb] at ho
    injection ho with ho
    subst ho
    rfl
/-- behind an append to its states the maker is written to -/
theorem mk_put {W W5 : World} {M B : Nat} {v : Value} {st : List NS} {s : NS} {most : Int} {g cap : Nat} (hm : Mk W M B v st most)
    (hown : W5.ownsRow B 56 8 (.slice (some ⟨g, 0, none⟩) (st.length + 1) cap) (st.length + 1) ((st ++ [s]).flatMap nsCells)) (hg : W.grownBy W5 v.ownBlock) :
    Mk (W5.setCell ⟨M, 0, none⟩ (.slice (some ⟨g, 0, none⟩) (st.length + 1) cap)) M B (.slice (some ⟨g, 0, none⟩) (st.length + 1) cap) (st ++ [s]) most ∧ Below B W (W5.setCell ⟨M, 0, none⟩ (.slice (some ⟨g, 0, none⟩) (st.length + 1) cap)) ∧ KeepT W (W5.setCell ⟨M, 0, none⟩ (.slice (some ⟨g, 0, none⟩) (st.length + 1) cap)) ∧ KeepsOthers W (W5.setCell ⟨M, 0, none⟩ (.slice (some ⟨g, 0, none⟩) (st.length + 1) cap)) := by
  have hbk := hm.blk.kept hg (blk_apart hm.own hm.blk (by decide))
  refine ⟨⟨hbk.set_ 0 _, ?_, hm.low⟩, ?_, fun g' t cs hb h1 h2 => ?_, (KeepsOthers.of_grownBy hg (fun j o e hj => own_cells hm.own e hj)).trans (KeepsOthers.setCell _ _ _)⟩
  · have := own_set hown hbk (by decide) 0 (.slice (some ⟨g, 0, none⟩) (st.length + 1) cap)
    rw [List.length_append]
    exact this
  · exact ((Below.refl B W).grown hg hm.ge (fun r hr => (hm.own.lt r hr).1)).setCell (p := ⟨M, 0, none⟩) hm.low _
  · refine (hb.kept hg (blk_apart hm.own hb h2)).other (fun e => ?_) _
    have e : g' = M := e
    subst e
    exact h1 (blk_same hb hm.blk).1
set_option maxRecDepth 100000 in
set_option maxHeartbeats 4000000 in
theorem add_more (M B : Nat) (v : Value) (st : List NS) (most : Int) (s : NS) (w : World) (h : Mk w M B v st most) (hl : st.length ≤ 1000000) :
    Calls Tryd.prog 51 #[.pointer (some ⟨M, 0, none⟩), .agg (nsCells s).toArray] w fun e w' => e = .returned (.int .i64 (st.length : Int)) ∧ MkOut B w w' M (st ++ [s]) most ∧ KeepsOthers w w' := by
  obtain ⟨cs, hcs⟩ : ∃ cs, cs = (nsCells s).toArray := ⟨_, rfl⟩
  have HCS := Lib.hid hcs
  have HM0 := Lib.hid (h.alloc (.cells (nsCells s).toArray 56))
  have HL0 : Hid (Below B w (w.alloc (.cells (nsCells s).toArray 56)) ∧ KeepT w (w.alloc (.cells (nsCells s).toArray 56)) ∧ KeepsOthers w (w.alloc (.cells (nsCells s).toArray 56))) := ⟨(Below.refl _ _).alloc h.ge _, (KeepT.refl w).alloc _, KeepsOthers.alloc _ _⟩
  have HB0 := Lib.hid (Blk.new w 56 (nsCells s).toArray)
  obtain ⟨n, hn⟩ : ∃ n, n = st.length := ⟨_, rfl⟩
  have HN := Lib.hid hn
  have hln : n ≤ 1000000 := by omega
  unfold nsCells at HB0 HM0 HL0 ⊢
  clear hcs h hl hn
  go_enter Tryd.func51, Tryd.ntmps51
  rw [← HN.out]
  go_upto_region 1 with (fail)
  generalize hW0 : w.alloc (.cells #[.int .u8 (s.kind : Int), .int .u64 (s.s0 : Int), .int .u64 (s.s1 : Int), .int .u64 (s.s2 : Int), .int .u64 (s.s3 : Int), .int .i64 s.a, .int .i64 s.b, .int .i64 s.tag] 56) = W0 at *
  obtain ⟨b0, hb0⟩ : ∃ b0, b0 = w.heap.size := ⟨_, rfl⟩
  rw [← hb0] at HB0 ⊢
  clear hW0 hb0
  have c0 := HM0.out.blk.cell 0
  have f0 := HM0.out.blk.frozen 0
  have b0c := HB0.out.cell 0
  have b1 := HB0.out.cell 1
  have b2 := HB0.out.cell 2
  have b3 := HB0.out.cell 3
  have b4 := HB0.out.cell 4
  have b5 := HB0.out.cell 5
  have b6 := HB0.out.cell 6
  have b7 := HB0.out.cell 7
  simp at c0 b0c b1 b2 b3 b4 b5 b6 b7
  go_cut [12] (fun _ wx => Hid (∃ g cap, Mk wx M B (.slice (some ⟨g, 0, none⟩) (st.length + 1) cap) (st ++ [s]) most ∧ Below B W0 wx ∧ KeepT W0 wx ∧ KeepsOthers W0 wx))
  case first =>
    have HOW : Hid ((W0.drew.alloc (.cells (#[.int .u8 (s.kind : Int), .int .u64 (s.s0 : Int), .int .u64 (s.s1 : Int), .int .u64 (s.s2 : Int), .int .u64 (s.s3 : Int), .int .i64 s.a, .int .i64 s.b, .int .i64 s.tag] : Array Value) 56)).ownsRow B 56 8 v st.length (st.flatMap nsCells) ∧ B ≤ (W0.drew.alloc (.cells (#[.int .u8 (s.kind : Int), .int .u64 (s.s0 : Int), .int .u64 (s.s1 : Int), .int .u64 (s.s2 : Int), .int .u64 (s.s3 : Int), .int .i64 s.a, .int .i64 s.b, .int .i64 s.tag] : Array Value) 56)).heap.size ∧ Blk (W0.drew.alloc (.cells (#[.int .u8 (s.kind : Int), .int .u64 (s.s0 : Int), .int .u64 (s.s1 : Int), .int .u64 (s.s2 : Int), .int .u64 (s.s3 : Int), .int .i64 s.a, .int .i64 s.b, .int .i64 s.tag] : Array Value) 56)) W0.heap.size 56 (nsCells s).toArray ∧ Blk (W0.drew.alloc (.cells (#[.int .u8 (s.kind : Int), .int .u64 (s.s0 : Int), .int .u64 (s.s1 : Int), .int .u64 (s.s2 : Int), .int .u64 (s.s3 : Int), .int .i64 s.a, .int .i64 s.b, .int .i64 s.tag] : Array Value) 56)) M 65 #[v, .int .i64 most] ∧ st.length ≤ 1000000) := ⟨HM0.out.own.drew.alloc _, by have := HM0.out.ge; rw [World.size_alloc]; exact Nat.le_succ_of_le this, Blk.new W0.drew _ _, HM0.out.blk.drew.alloc _, by rw [← HN.out]; exact hln⟩
    have c0d := (HM0.out.blk.alloc (.cells (#[.int .u8 (s.kind : Int), .int .u64 (s.s0 : Int), .int .u64 (s.s1 : Int), .int .u64 (s.s2 : Int), .int .u64 (s.s3 : Int), .int .i64 s.a, .int .i64 s.b, .int .i64 s.tag] : Array Value) 56)).drew.cell 0
    simp at c0d
    go_region_law (refine step_ns rfl (.tmp 9) (.tmp 11) rfl B v st s (by simp [Act.eval, Act.put]) HOW.out.1 HOW.out.2.1 W0.heap.size (by simp [Act.eval, Act.put]) HOW.out.2.2.1 HOW.out.2.2.2.2 ?_; intro g cap W5 hown hg; have hbk := HOW.out.2.2.2.1.kept hg (blk_apart HOW.out.1 HOW.out.2.2.2.1 (by decide)); have hc5 := hbk.cell 0; have hf5 := hbk.frozen 0; simp at hc5; have HE := Lib.hid (mk_put ((HM0.out.drew.alloc (.cells (#[.int .u8 (s.kind : Int), .int .u64 (s.s0 : Int), .int .u64 (s.s1 : Int), .int .u64 (s.s2 : Int), .int .u64 (s.s3 : Int), .int .i64 s.a, .int .i64 s.b, .int .i64 s.tag] : Array Value) 56))) hown hg); clear hown hg hbk)
    all_goals go_wp2
    all_goals go_meet
    all_goals exact ⟨g, cap, HE.out.1, ((Below.refl B W0).drew.alloc HM0.out.ge _).trans HE.out.2.1, KeepT.trans ((KeepT.of_below (Below.refl _ W0).drew).alloc _) HE.out.2.2.1, ((KeepsOthers.drew W0).trans (KeepsOthers.alloc _ _)).trans HE.out.2.2.2⟩
  case rest =>
    obtain ⟨g, cap, hmk, hlow, hkeep, hoth⟩ := hcut
    have c9 := hmk.blk.cell 0
    simp at c9
    rw [← HN.out] at c9
    have HE : Hid (MkOut B w wc M (st ++ [s]) most ∧ KeepsOthers w wc) := ⟨⟨⟨_, hmk⟩, HL0.out.1.trans hlow, HL0.out.2.1.trans hkeep⟩, HL0.out.2.2.trans hoth⟩
    clear hmk hlow hkeep hoth
    go_wp2
    go_ret
    exact ⟨ret_int (by omega), HE.out⟩
theorem add_any (M B : Nat) (v : Value) (st : List NS) (most : Int) (s : NS) (w : World) (h : Mk w M B v st most) (hl : st.length ≤ 1000000) :
    Calls Tryd.prog 51 #[.pointer (some ⟨M, 0, none⟩), .agg (nsCells s).toArray] w fun e w' => e = .returned (.int .i64 (st.length : Int)) ∧ MkOut B w w' M (st ++ [s]) most :=
  (add_more M B v st most s w h hl).mono fun _ _ h => ⟨h.1, h.2.1⟩
set_option maxRecDepth 100000 in
set_option maxHeartbeats 1000000 in
theorem tooMany_any (M B : Nat) (v : Value) (st : List NS) (most : Int) (w : World) (h : Mk w M B v st most) :
    Calls Tryd.prog 31 #[.pointer (some ⟨M, 0, none⟩)] w fun e w' => e = .returned (.bool (decide (most < (st.length : Int)))) ∧ Below w.heap.size w w' := by
  obtain ⟨n, hn⟩ : ∃ n, n = st.length := ⟨_, rfl⟩
  obtain ⟨a, c, hv⟩ : ∃ a c, v = .slice a st.length c := by
    rcases h.own.2 with ⟨e, h0⟩ | ⟨g, cap, cur, e, _⟩
    · exact ⟨none, 0, by rw [e, h0]⟩
    · exact ⟨_, cap, e⟩
  rw [← hn] at hv ⊢
  subst hv
  have c0 := h.blk.cell 0
  have c1 := h.blk.cell 1
  simp at c0 c1
  clear h hn
  go_enter Tryd.func31, Tryd.ntmps31
  go_wp2
  go_quiet (fail)
  go_wp2
  go_ret
  exact ⟨rfl, below_drewNb (Below.refl _ _) _⟩
end Go.Proofs.YtdckjjkaoecgaaaDoor
