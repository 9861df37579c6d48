/-
  The contract of (*nfa.maker).opened. Conditions: at most a million states.
-/
import Derived.Test.YtdckjjkaoecgaaaDoorNbA
namespace Go.Proofs.YtdckjjkaoecgaaaDoor
open Go.RowKit

theorem keep0b {W w' : World} {g : Nat} {t : TypeId} {cs : Array Value} (h : Blk W g t cs) (hb : Below W.heap.size W w') : Blk w' g t cs := h.below hb h.lt
def ptC (p : Pq) (n : Nat) (a : Option Addr) (c : Nat) : List Value := [.int .u8 (p.kind : Int), .slice a n c, .int .i64 p.tw, .int .i64 p.begin]
theorem MkOut.refl {w : World} {M B : Nat} {v : Value} {st : List NS} {most : Int} (h : Mk w M B v st most) : MkOut B w w M st most := ⟨⟨v, h⟩, Below.refl _ _, KeepT.refl _⟩
theorem MkOut.trans {B M : Nat} {a b c : World} {st st' : List NS} {most : Int} (h : MkOut B a b M st most) (k : MkOut B b c M st' most) : MkOut B a c M st' most := ⟨k.maker, h.low.trans k.low, h.keep.trans k.keep⟩
theorem MkOut.ge {B M : Nat} {a b : World} {st : List NS} {most : Int} (h : MkOut B a b M st most) : B ≤ b.heap.size := by obtain ⟨v, hv⟩ := h.maker; exact hv.ge
theorem MkOut.later {B M : Nat} {a b c : World} {st : List NS} {most : Int} (h : MkOut B a b M st most) (hb : Below b.heap.size b c) : MkOut B a c M st most := by
  obtain ⟨v, hv⟩ := h.maker
  exact ⟨⟨v, hv.later hb⟩, h.low.trans (hb.mono hv.ge), h.keep.trans (KeepT.of_below hb)⟩
theorem MkOut.alloc {B M : Nat} {a b : World} {st : List NS} {most : Int} (h : MkOut B a b M st most) (o : Obj) : MkOut B a (b.alloc o) M st most := h.later ((Below.refl _ _).alloc (Nat.le_refl _) _)
theorem MkOut.drew {B M : Nat} {a b : World} {st : List NS} {most : Int} (h : MkOut B a b M st most) : MkOut B a b.drew M st most := h.later (Below.refl _ _).drew
/-- a cell of a block that was not there, of another type, is written -/
theorem MkOut.set {B M : Nat} {a b : World} {st : List NS} {most : Int} (h : MkOut B a b M st most) {g : Nat} {t : TypeId} {cs : Array Value} (hb : Blk b g t cs) (h1 : t ≠ 65) (h2 : t ≠ 56) (hg : a.heap.size ≤ g) (hB : B ≤ g) (i : Nat) (u : Value) : MkOut B a (b.setCell ⟨g, i, none⟩ u) M st most := by
  obtain ⟨v, hv⟩ := h.maker
  refine ⟨⟨v, hv.blk.other (fun e => ?_) u, own_set hv.own hb h2 i u, hv.low⟩, h.low.setCell (p := ⟨g, i, none⟩) hB u, fun g' t' cs' hb' k1 k2 => ?_⟩
  · have e : M = g := e
    subst e
    exact h1 (blk_same hb hv.blk).1
  · refine (h.keep g' t' cs' hb' k1 k2).other (fun e => ?_) u
    have e : g' = g := e
    have := hb'.lt
    omega
theorem open_1 (t : Ry) (tw : Int) (st : List NS) (h : t.kind = 1) : openP t tw st = (⟨1, tw, st.length⟩, st ++ [byteN t tw]) := by unfold openP; rw [if_pos h, h]
theorem open_3 (t : Ry) (tw : Int) (st : List NS) (h : t.kind = 3) : openP t tw st = (⟨3, tw, -1⟩, st) := by unfold openP; rw [if_neg (by omega), if_pos h, h]
theorem open_4 (t : Ry) (tw : Int) (st : List NS) (h : t.kind = 4) : openP t tw st = (⟨4, st.length, st.length⟩, st ++ [splitN 0 tw]) := by unfold openP; rw [if_neg (by omega), if_neg (by omega), if_pos h, h]
theorem open_n (t : Ry) (tw : Int) (st : List NS) (h1 : ¬ t.kind = 1) (h3 : ¬ t.kind = 3) (h4 : ¬ t.kind = 4) : openP t tw st = (⟨t.kind, tw, tw⟩, st) := by unfold openP; rw [if_neg h1, if_neg h3, if_neg h4]
/-- a part is stored whole -/
theorem put4 {B M : Nat} {a b : World} {st : List NS} {most : Int} (h : MkOut B a b M st most) {g : Nat} {c0 c1 c2 c3 : Value} (hb : Blk b g 104 #[c0, c1, c2, c3]) (hg : a.heap.size ≤ g) (hB : B ≤ g) (d0 d1 d2 d3 : Value) :
    MkOut B a ((((b.setCell ⟨g, 0, none⟩ d0).setCell ⟨g, 1, none⟩ d1).setCell ⟨g, 2, none⟩ d2).setCell ⟨g, 3, none⟩ d3) M st most ∧ Blk ((((b.setCell ⟨g, 0, none⟩ d0).setCell ⟨g, 1, none⟩ d1).setCell ⟨g, 2, none⟩ d2).setCell ⟨g, 3, none⟩ d3) g 104 #[d0, d1, d2, d3] := by
  have b1 := hb.set_ 0 d0
  have b2 := b1.set_ 1 d1
  have b3 := b2.set_ 2 d2
  have b4 := b3.set_ 3 d3
  exact ⟨(((h.set hb (by decide) (by decide) hg hB 0 d0).set b1 (by decide) (by decide) hg hB 1 d1).set b2 (by decide) (by decide) hg hB 2 d2).set b3 (by decide) (by decide) hg hB 3 d3, b4⟩
set_option maxRecDepth 100000 in
set_option maxHeartbeats 4000000 in
theorem opened_any (M B : Nat) (v : Value) (st : List NS) (most : Int) (t : Ry) (tw : Int) (w : World) (h : Mk w M B v st most) (hl : st.length ≤ 1000000) :
    Calls Tryd.prog 63 #[.pointer (some ⟨M, 0, none⟩), .agg (ryCells t).toArray, .int .i64 tw] w fun e w' => e = .returned (.agg (ptC (openP t tw st).1 t.kids.length t.a t.cap).toArray) ∧ MkOut B w w' M (openP t tw st).2 most := by
  obtain ⟨n, hn⟩ : ∃ n, n = t.kids.length := ⟨_, rfl⟩
  have HO : Hid (MkOut B w (((w.alloc (.cells (ryCells t).toArray 46)).alloc (.cells #[.int .u8 0, .slice none 0 0, .int .i64 0, .int .i64 0] 104)).alloc (.cells #[.int .u8 (t.kind : Int), .slice t.a n t.cap, .int .i64 tw, .int .i64 tw] 104)) M st most) := (((MkOut.refl h).alloc _).alloc _).alloc _
  have HR : Hid (Blk (((w.alloc (.cells (ryCells t).toArray 46)).alloc (.cells #[.int .u8 0, .slice none 0 0, .int .i64 0, .int .i64 0] 104)).alloc (.cells #[.int .u8 (t.kind : Int), .slice t.a n t.cap, .int .i64 tw, .int .i64 tw] 104)) w.heap.size 46 (ryCells t).toArray) := ((Blk.new _ _ _).alloc _).alloc _
  have H1 : Hid (Blk (((w.alloc (.cells (ryCells t).toArray 46)).alloc (.cells #[.int .u8 0, .slice none 0 0, .int .i64 0, .int .i64 0] 104)).alloc (.cells #[.int .u8 (t.kind : Int), .slice t.a n t.cap, .int .i64 tw, .int .i64 tw] 104)) (w.heap.size + 1) 104 #[.int .u8 0, .slice none 0 0, .int .i64 0, .int .i64 0]) := (Blk.new_at _ _ _ _ (by simp)).alloc _
  have H2 : Hid (Blk (((w.alloc (.cells (ryCells t).toArray 46)).alloc (.cells #[.int .u8 0, .slice none 0 0, .int .i64 0, .int .i64 0] 104)).alloc (.cells #[.int .u8 (t.kind : Int), .slice t.a n t.cap, .int .i64 tw, .int .i64 tw] 104)) (w.heap.size + 1 + 1) 104 #[.int .u8 (t.kind : Int), .slice t.a n t.cap, .int .i64 tw, .int .i64 tw]) := Blk.new_at _ _ _ _ (by simp)
  have HGE : Hid (B ≤ w.heap.size) := h.ge
  have HLN : Hid (st.length ≤ 1000000) := hl
  have HO1 := Lib.hid (open_1 t tw st)
  have HO3 := Lib.hid (open_3 t tw st)
  have HO4 := Lib.hid (open_4 t tw st)
  have HON := Lib.hid (open_n t tw st)
  have HB1 : Hid (byteN t tw = byteN t tw) := show _ = _ from rfl
  have HBY := Lib.hid (onByte_any t tw)
  have HSP := Lib.hid (split_any 0 tw)
  have hdec : (ryCells t).toArray = #[.int .u8 (t.kind : Int), .int .u64 (t.s0 : Int), .int .u64 (t.s1 : Int), .int .u64 (t.s2 : Int), .int .u64 (t.s3 : Int), .slice t.a n t.cap] := by rw [hn]; rfl
  rw [hdec] at HO HR H1 H2 ⊢
  rw [← hn]
  clear hdec h hl hn HB1
  generalize openP t tw st = P at *
  generalize byteN t tw = BN at *
  generalize t.kind = k at *
  generalize t.s0 = s0 at *
  generalize t.s1 = s1 at *
  generalize t.s2 = s2 at *
  generalize t.s3 = s3 at *
  generalize t.a = la at *
  generalize t.cap = lc at *
  go_enter Tryd.func63, Tryd.ntmps63
  go_upto_region 2 with (fail)
  generalize ((w.alloc (.cells #[.int .u8 (k : Int), .int .u64 (s0 : Int), .int .u64 (s1 : Int), .int .u64 (s2 : Int), .int .u64 (s3 : Int), .slice la n lc] 46)).alloc (.cells #[.int .u8 0, .slice none 0 0, .int .i64 0, .int .i64 0] 104)).alloc (.cells #[.int .u8 (k : Int), .slice la n lc, .int .i64 tw, .int .i64 tw] 104) = W0 at *
  have r0 := HR.out.cell 0
  have r1 := HR.out.cell 1
  have r2 := HR.out.cell 2
  have r3 := HR.out.cell 3
  have r4 := HR.out.cell 4
  simp at r0 r1 r2 r3 r4
  have p0 := H2.out.cell 0
  have p1 := H2.out.cell 1
  have p2 := H2.out.cell 2
  have p3 := H2.out.cell 3
  have q0 := H2.out.frozen 0
  have q1 := H2.out.frozen 1
  have q2 := H2.out.frozen 2
  have q3 := H2.out.frozen 3
  simp at p0 p1 p2 p3
  have z0 := H1.out.cell 0
  have z1 := H1.out.cell 1
  have z2 := H1.out.cell 2
  have z3 := H1.out.cell 3
  have y0 := H1.out.frozen 0
  have y1 := H1.out.frozen 1
  have y2 := H1.out.frozen 2
  have y3 := H1.out.frozen 3
  simp at z0 z1 z2 z3
  by_cases h1 : k = 1
  · have hP := HO1.out h1
    subst hP
    subst h1
    clear p0 p1 p2 p3 q0 q1 q2 q3 z0 z1 z2 z3 y0 y1 y2 y3 HO1 HO3 HO4 HON HSP
    have p0 := H2.out.cell 0
    simp at p0
    go_wp2_with (first
      | (go_at_call 61; refine (HBY.out _).mono ?_; rintro e w5 ⟨rfl, hb5⟩; have HO := Lib.hid (HO.out.later hb5); have H1 := Lib.hid (keep0b H1.out hb5); have H2 := Lib.hid (keep0b H2.out hb5); have HADD : Hid (Calls Tryd.prog 51 #[.pointer (some ⟨M, 0, none⟩), .agg (nsCells BN).toArray] w5 fun e w' => e = .returned (.int .i64 (st.length : Int)) ∧ MkOut B w5 w' M (st ++ [BN]) most) := (by obtain ⟨v5, hv5⟩ := HO.out.maker; exact add_any M B v5 st most BN w5 hv5 HLN.out); clear hb5 p0)
      | (go_at_call 51; refine HADD.out.mono ?_; rintro e w6 ⟨rfl, hout⟩; have H1 := Lib.hid (hout.keep _ _ _ H1.out (by decide) (by decide)); have H2 := Lib.hid (hout.keep _ _ _ H2.out (by decide) (by decide)); have HO := Lib.hid (HO.out.trans hout); clear hout; have p0 := H2.out.cell 0; have p1 := H2.out.cell 1; have p2 := H2.out.cell 2; have p3 := H2.out.cell 3; have q2 := H2.out.frozen 2; have q3 := H2.out.frozen 3; have z0 := H1.out.cell 0; have z1 := H1.out.cell 1; have z2 := H1.out.cell 2; have z3 := H1.out.cell 3; have y0 := H1.out.frozen 0; have y1 := H1.out.frozen 1; have y2 := H1.out.frozen 2; have y3 := H1.out.frozen 3; simp at p0 p1 p2 p3 z0 z1 z2 z3))
    have HS := Lib.hid (HO.out.set H2.out (by decide) (by decide) (by omega) (by have := HGE.out; omega) 3 (.int .i64 (st.length : Int)))
    have HZ := Lib.hid (H1.out.other (p := ⟨w.heap.size + 1 + 1, 3, none⟩) (by show _ ≠ w.heap.size + 1 + 1; omega) (.int .i64 (st.length : Int)))
    have HF := Lib.hid (put4 HS.out HZ.out (by omega) (by have := HGE.out; omega) (.int .u8 1) (.slice la n lc) (.int .i64 tw) (.int .i64 (st.length : Int)))
    refine bodyPost_ret (results_cell1 rfl _ _ (w.heap.size + 1) _ _ _ _ rfl HF.out.2 Tryd.underlying104 rfl (by kernel_rfl)) rfl ?_
    exact ⟨rfl, HF.out.1⟩
  · by_cases h3 : k = 3
    · have hP := HO3.out h3
      subst hP
      subst h3
      have HS := Lib.hid (HO.out.set H2.out (by decide) (by decide) (by omega) (by have := HGE.out; omega) 3 (.int .i64 (-1)))
      have HZ := Lib.hid (H1.out.other (p := ⟨w.heap.size + 1 + 1, 3, none⟩) (by show _ ≠ w.heap.size + 1 + 1; omega) (.int .i64 (-1)))
      have HF := Lib.hid (put4 HS.out HZ.out (by omega) (by have := HGE.out; omega) (.int .u8 3) (.slice la n lc) (.int .i64 tw) (.int .i64 (-1)))
      go_wp2
      refine bodyPost_ret (results_cell1 rfl _ _ (w.heap.size + 1) _ _ _ _ rfl HF.out.2 Tryd.underlying104 rfl (by kernel_rfl)) rfl ?_
      exact ⟨rfl, HF.out.1⟩
    · by_cases h4 : k = 4
      · have hP := HO4.out h4
        subst hP
        subst h4
        clear p0 p1 p2 p3 q0 q1 q2 q3 z0 z1 z2 z3 y0 y1 y2 y3 HO1 HO3 HO4 HON HBY
        have p0 := H2.out.cell 0
        simp at p0
        go_wp2_with (first
          | (go_at_call 54; refine (HSP.out _).mono ?_; rintro e w5 ⟨rfl, hb5⟩; have HO := Lib.hid (HO.out.later hb5); have H1 := Lib.hid (keep0b H1.out hb5); have H2 := Lib.hid (keep0b H2.out hb5); have HADD : Hid (Calls Tryd.prog 51 #[.pointer (some ⟨M, 0, none⟩), .agg (nsCells (splitN 0 tw)).toArray] w5 fun e w' => e = .returned (.int .i64 (st.length : Int)) ∧ MkOut B w5 w' M (st ++ [splitN 0 tw]) most) := (by obtain ⟨v5, hv5⟩ := HO.out.maker; exact add_any M B v5 st most _ w5 hv5 HLN.out); clear hb5 p0)
          | (go_at_call 51; refine HADD.out.mono ?_; rintro e w6 ⟨rfl, hout⟩; have H1 := Lib.hid (hout.keep _ _ _ H1.out (by decide) (by decide)); have H2 := Lib.hid (hout.keep _ _ _ H2.out (by decide) (by decide)); have HO := Lib.hid (HO.out.trans hout); clear hout; have p0 := H2.out.cell 0; have p1 := H2.out.cell 1; have p2 := H2.out.cell 2; have p3 := H2.out.cell 3; have q2 := H2.out.frozen 2; have q3 := H2.out.frozen 3; have z0 := H1.out.cell 0; have z1 := H1.out.cell 1; have z2 := H1.out.cell 2; have z3 := H1.out.cell 3; have y0 := H1.out.frozen 0; have y1 := H1.out.frozen 1; have y2 := H1.out.frozen 2; have y3 := H1.out.frozen 3; simp at p0 p1 p2 p3 z0 z1 z2 z3))
        have HS := Lib.hid (HO.out.set H2.out (by decide) (by decide) (by omega) (by have := HGE.out; omega) 3 (.int .i64 (st.length : Int)))
        have HZ := Lib.hid (H1.out.other (p := ⟨w.heap.size + 1 + 1, 3, none⟩) (by show _ ≠ w.heap.size + 1 + 1; omega) (.int .i64 (st.length : Int)))
        have HS2 := Lib.hid (HS.out.set (H2.out.set_ 3 (.int .i64 (st.length : Int))) (by decide) (by decide) (by omega) (by have := HGE.out; omega) 2 (.int .i64 (st.length : Int)))
        have HZ2 := Lib.hid (HZ.out.other (p := ⟨w.heap.size + 1 + 1, 2, none⟩) (by show _ ≠ w.heap.size + 1 + 1; omega) (.int .i64 (st.length : Int)))
        have HF := Lib.hid (put4 HS2.out HZ2.out (by omega) (by have := HGE.out; omega) (.int .u8 4) (.slice la n lc) (.int .i64 (st.length : Int)) (.int .i64 (st.length : Int)))
        refine bodyPost_ret (results_cell1 rfl _ _ (w.heap.size + 1) _ _ _ _ rfl HF.out.2 Tryd.underlying104 rfl (by kernel_rfl)) rfl ?_
        exact ⟨rfl, HF.out.1⟩
      · have hP := HON.out h1 h3 h4
        subst hP
        have e1 : ((k : Int) == 1) = false := by rw [beq_eq_false_iff_ne]; omega
        have e3 : ((k : Int) == 3) = false := by rw [beq_eq_false_iff_ne]; omega
        have e4 : ((k : Int) == 4) = false := by rw [beq_eq_false_iff_ne]; omega
        have HF := Lib.hid (put4 HO.out H1.out (by omega) (by have := HGE.out; omega) (.int .u8 (k : Int)) (.slice la n lc) (.int .i64 tw) (.int .i64 tw))
        go_wp2
        refine bodyPost_ret (results_cell1 rfl _ _ (w.heap.size + 1) _ _ _ _ rfl HF.out.2 Tryd.underlying104 rfl (by kernel_rfl)) rfl ?_
        exact ⟨rfl, HF.out.1⟩
end Go.Proofs.YtdckjjkaoecgaaaDoor
