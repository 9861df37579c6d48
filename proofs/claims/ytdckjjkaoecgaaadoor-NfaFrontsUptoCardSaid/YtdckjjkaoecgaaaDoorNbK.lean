/-
  The contract of (*nfa.maker).join. Conditions: the part lies in a row of parts; at most a million states; a star's state is there.
-/
import Derived.Test.YtdckjjkaoecgaaaDoorNbJ
namespace Go.Proofs.YtdckjjkaoecgaaaDoor
open Go.RowKit

theorem set_same {cur : Array Value} {i : Nat} {v : Value} (h : cur[i]? = some v) : cur.setIfInBounds i v = cur := by
  apply Array.ext_getElem?
  intro j
  rw [Array.getElem?_setIfInBounds]
  split
  · rename_i e
    subst e
    split
    · exact h.symm
    · rename_i hn
      rw [Array.getElem?_eq_none (by omega)] at h
      cases h
  · rfl
theorem step_begin {p : Pq} (h : 0 ≤ p.begin) : ∃ k : Nat, p.begin = (k : Int) := ⟨p.begin.toNat, by omega⟩
set_option maxRecDepth 100000 in
set_option maxHeartbeats 4000000 in
theorem join_any (M B g o : Nat) (v : Value) (p : Pq) (kid : Int) (st : List NS) (most : Int) (cur : Array Value) (w : World) (hm : Mk w M B v st most) (hb : Blk w g 104 cur) (hB : B ≤ g)
    (h0 : cur[o]? = some (.int .u8 (p.kind : Int))) (h2 : cur[o + 2]? = some (.int .i64 p.tw)) (h3 : cur[o + 3]? = some (.int .i64 p.begin)) (h4 : p.kind = 4 → 0 ≤ p.begin ∧ p.begin.toNat < st.length) (hl : st.length ≤ 1000000) :
    Calls Tryd.prog 65 #[.pointer (some ⟨M, 0, none⟩), .pointer (some ⟨g, o, none⟩), .int .i64 kid] w fun e w' => (∃ r, e = .returned r) ∧ JnOut B w w' M g ((cur.setIfInBounds (o + 2) (.int .i64 (joinP p kid st).1.tw)).setIfInBounds (o + 3) (.int .i64 (joinP p kid st).1.begin)) (joinP p kid st).2 most := by
  have HJ := Lib.hid (JnOut.start hm hb)
  have HMK := Lib.hid hm
  have HBG : Hid (B ≤ g) := hB
  have c0 : w.cell? ⟨g, o, none⟩ = some (.int .u8 (p.kind : Int)) := by rw [hb.cell]; exact h0
  have c2 : w.cell? ⟨g, o + 2, none⟩ = some (.int .i64 p.tw) := by rw [hb.cell]; exact h2
  have c3 : w.cell? ⟨g, o + 3, none⟩ = some (.int .i64 p.begin) := by rw [hb.cell]; exact h3
  have f2 := hb.frozen (o + 2)
  have f3 := hb.frozen (o + 3)
  have HLN : Hid (st.length ≤ 1000000) := hl
  by_cases k2 : p.kind = 2
  · have k2' : ((p.kind : Int) == 2) = true := by rw [beq_iff_eq]; omega
    rw [join_2 p kid st k2]
    have HE := Lib.hid ((HJ.out.set hB (o + 2) (.int .i64 kid)).set hB (o + 3) (.int .i64 kid))
    clear hm hb hB h0 h2 h3 h4 hl k2
    generalize p.kind = k at *
    go_enter Tryd.func65, Tryd.ntmps65
    go_wp2
    go_end0
    exact ⟨⟨_, rfl⟩, HE.out⟩
  · have k2' : ((p.kind : Int) == 2) = false := by rw [beq_eq_false_iff_ne]; omega
    by_cases k3 : p.kind = 3
    · have k3' : ((p.kind : Int) == 3) = true := by rw [beq_iff_eq]; omega
      by_cases kb : p.begin = -1
      · rw [join_3a p kid st k3 kb]
        have HE := Lib.hid (HJ.out.set hB (o + 3) (.int .i64 kid))
        have HQ : Hid (cur.setIfInBounds (o + 2) (.int .i64 p.tw) = cur) := set_same h2
        rw [kb] at c3
        clear hm hb hB h0 h2 h3 h4 hl k2 k3 kb
        generalize p.kind = k at *
        go_enter Tryd.func65, Tryd.ntmps65
        go_wp2
        go_end0
        exact ⟨⟨_, rfl⟩, by rw [HQ.out]; exact HE.out⟩
      · have kb' : (p.begin != -1) = true := by rw [bne_iff_ne]; exact kb
        have kb2 : (p.begin == -1) = false := by rw [beq_eq_false_iff_ne]; exact kb
        rw [join_3b p kid st k3 kb]
        have HSP := Lib.hid (split_any kid p.begin)
        have HQ : Hid (cur.setIfInBounds (o + 2) (.int .i64 p.tw) = cur) := set_same h2
        have H3 : Hid (cur[o + 3]? = some (.int .i64 p.begin)) := h3
        clear hm hb hB h0 h2 h3 h4 hl k2 k3 kb
        generalize p.kind = k at *
        generalize splitN kid p.begin = SN at *
        generalize p.begin = be at *
        go_enter Tryd.func65, Tryd.ntmps65
        go_wp2_with (first
          | (go_at_call 54; refine (HSP.out _).mono ?_; rintro e w5 ⟨rfl, hb5⟩; have HJ := Lib.hid (HJ.out.later hb5); have HADD : Hid (Calls Tryd.prog 51 #[.pointer (some ⟨M, 0, none⟩), .agg (nsCells SN).toArray] w5 fun e w' => e = .returned (.int .i64 (st.length : Int)) ∧ MkOut B w5 w' M (st ++ [SN]) most) := (by obtain ⟨v5, hv5⟩ := HJ.out.maker; exact add_any M B v5 st most _ w5 hv5 HLN.out); clear hb5)
          | (go_at_call 51; refine HADD.out.mono ?_; rintro e w6 ⟨rfl, hout⟩; have HJ := Lib.hid (HJ.out.out hout); clear hout; have d3 : w6.cell? ⟨g, o + 3, none⟩ = some (.int .i64 be) := (by rw [HJ.out.blk.cell]; exact H3.out); have e3 := HJ.out.blk.frozen (o + 3)))
        have HE := Lib.hid (HJ.out.set HBG.out (o + 3) (.int .i64 (st.length : Int)))
        go_end0
        exact ⟨⟨_, rfl⟩, by rw [HQ.out]; exact HE.out⟩
    · have k3' : ((p.kind : Int) == 3) = false := by rw [beq_eq_false_iff_ne]; omega
      have HQ2 : Hid (cur.setIfInBounds (o + 2) (.int .i64 p.tw) = cur) := set_same h2
      have HQ3 : Hid (cur.setIfInBounds (o + 3) (.int .i64 p.begin) = cur) := set_same h3
      by_cases k4 : p.kind = 4
      · have k4' : ((p.kind : Int) == 4) = true := by rw [beq_iff_eq]; omega
        obtain ⟨hb0, hbl⟩ := h4 k4
        rw [join_4 p kid st k4]
        obtain ⟨pk, pt, pb⟩ := p
        dsimp only at *
        obtain ⟨z, rfl⟩ : ∃ z : Nat, pb = (z : Int) := ⟨pb.toNat, by omega⟩
        rw [Int.toNat_natCast] at *
        have hzl : z < st.length := hbl
        obtain ⟨gs, c, rfl⟩ : ∃ gs c, v = .slice (some ⟨gs, 0, none⟩) st.length c := by
          rcases hm.own.2 with ⟨_, e0⟩ | ⟨gs, cap, _, e, _⟩
          · omega
          · exact ⟨gs, cap, e⟩
        have HE := Lib.hid (HJ.out.aim hm hzl kid)
        have m0 := hm.blk.cell 0
        simp at m0
        obtain ⟨s5, hs5, hf5⟩ : ∃ u, w.cell? ⟨gs, z * 8 + 5, none⟩ = some u ∧ w.frozen? ⟨gs, z * 8 + 5, none⟩ = false := by
          obtain ⟨_, _, cur2, hcur⟩ := hm.aim z hzl kid
          have hc := hm.own.cells (g := gs) rfl (z * 8 + 5) (.int .i64 st[z].a) (by rw [nsFlat_at st z hzl 5 (by decide)]; rfl)
          rw [Addr.add_lit, Nat.zero_add] at hc
          exact ⟨_, hc, hcur.frozen _⟩
        obtain ⟨n, hn⟩ : ∃ n, n = st.length := ⟨_, rfl⟩
        have hzi : (z : Int) < (n : Int) := by omega
        have hz0 : (0 : Int) ≤ z := by omega
        rw [← hn] at m0
        clear hm hb hB h0 h2 h3 h4 hl k2 k3 k4 hb0 hbl hzl hn
        go_enter Tryd.func65, Tryd.ntmps65
        go_wp2
        go_region
        go_wp2
        go_end0
        exact ⟨⟨_, rfl⟩, by rw [HQ2.out, HQ3.out]; exact HE.out.later (Below.refl _ _).drew⟩
      · have k4' : ((p.kind : Int) == 4) = false := by rw [beq_eq_false_iff_ne]; omega
        rw [join_n p kid st k2 k3 k4]
        clear hm hb hB h0 h2 h3 h4 hl k2 k3 k4
        generalize p.kind = k at *
        go_enter Tryd.func65, Tryd.ntmps65
        go_wp2
        go_end0
        exact ⟨⟨_, rfl⟩, by rw [HQ2.out, HQ3.out]; exact HJ.out⟩
end Go.Proofs.YtdckjjkaoecgaaaDoor
