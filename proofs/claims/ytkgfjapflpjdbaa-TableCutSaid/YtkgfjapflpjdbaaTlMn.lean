/-
  The contract of frankinglaw10.TableCut (too many bytes more; the changed bytes are none). Conditions: the table and the bytes lie in memory, within Go's own bounds.
-/
import Derived.Test.YtkgfjapflpjdbaaTlA
namespace Go.Proofs.Ytkgfjapflpjdbaa
open Go.RowKit

attribute [local go_sem ↓] loadOp_C loadOp_T allocOp_T storeOp_T buildOp_T
set_option maxRecDepth 10000000 in
set_option maxHeartbeats 8000000 in
theorem tableCut_mn (t : Tab) (p : Lie) (X : Array Value) (hX : (tabCells t p).toArray = X) (cut at_ : Nat) (hcut : cut < 65536) (hat : at_ < 65536) (x : UInt8) (ab : Option Addr) (bl : List UInt8) (cb n : Nat) (hn : bl.length = n) (w : World) (h : TabAt w t p) (hb : BytesAt w ab bl) (hf : fewB t = true) (hr : tabRightB t = true) (hm1 : 20 < n) (hB : (packP t).set (at_ % (packP t).length) x ≠ packP t) (hC : readB ((packP t).set (at_ % (packP t).length) x) = false) :
    Calls Try.prog 5 #[.agg X, .int .u16 (cut : Int), .int .u16 (at_ : Int), .int .u8 (x.toNat : Int), .slice ab n cb] w fun e w' => e = .returned (.bool true) ∧ Below w.heap.size w w' := by
  obtain ⟨Z, hZ⟩ : ∃ Z, (tabCells zeroTab zeroLie).toArray = Z := ⟨_, rfl⟩
  have hzs : Z.size = 261 := by rw [← hZ, List.size_toArray, tab_len zeroTab zeroLie List.length_replicate]
  have HRUN0 := alloc_run
  rw [hZ] at HRUN0
  have HZS := Lib.hid hzs
  have h0 := BkW.start h hb
  rw [hX] at h0
  have hld := h0.tab.read.all
  rw [hX] at hld
  have HW0 := Lib.hid h0
  have HFW : Hid (∀ W, BkW w W t p ab bl → Calls Try.prog 7 #[.agg X] W fun e w' => e = .returned (.bool true) ∧ Below W.heap.size W w') := fun W hW => by
    have := few_any t p X hX W hW.tab.at_
    rw [hf] at this
    exact this
  have HLD : Hid (∀ W, BkW w W t p ab bl → (LoadOp 30 (.pointer (some ⟨w.heap.size, 0, none⟩))).run Try.prog W = .ok (.agg X) W) := fun W hW => by
    have := hW.tab.read.all
    rw [hX] at this
    exact this
  have HRT : Hid (∀ W, BkW w W t p ab bl → Calls Try.prog 9 #[.agg X] W fun e w' => e = .returned (.bool true) ∧ Below W.heap.size W w') := fun W hW => by
    have := right_agg t p X hX W hW.tab.at_
    rw [hr] at this
    exact this
  have HAW := Lib.hid awake_any
  obtain ⟨P, hP⟩ : ∃ P, packP t = P := ⟨_, rfl⟩
  obtain ⟨m, hm⟩ : ∃ m, P.length = m := ⟨_, rfl⟩
  have hpos : 0 < m := by have := packP_pos t; rw [hP, hm] at this; exact this
  have hsm : m ≤ 10000 := by have := pack_few t hf h.of; rw [hP, hm] at this; exact this
  have hrw := right_wf hr
  obtain ⟨f1, f2⟩ := readB_pack t hr h.of
  rw [hP] at f1 f2 hB hC
  rw [hm] at hB hC
  have HPK : Hid (∀ W, BkW w W t p ab bl → Calls Try.prog 13 #[.agg X] W fun e w' => ∃ g cap, e = .returned (.tuple #[.slice (some ⟨g, 0, none⟩) m cap, .int .i64 0]) ∧ Hid (BytesAt w' (some ⟨g, 0, none⟩) P) ∧ Hid (m ≤ cap ∧ cap ≤ maxLen) ∧ Below W.heap.size W w') := fun W hW =>
    (pack_yes t p X hX W hW.tab.at_ hr).mono fun e w' ⟨v, he, ho⟩ => by
      rw [hP] at ho
      obtain ⟨g, cap, hv, h1, h2, h3⟩ := ho.bytes hm hpos
      exact ⟨g, cap, by rw [he, hv], h1, ⟨h2, h3⟩, ho.low⟩
  have HRX : Hid (∀ (W : World) (g cap : Nat) (l : List UInt8) (k : Nat), l.length = k → readB l = false → BytesAt W (some ⟨g, 0, none⟩) l → k ≤ cap → cap ≤ maxLen → Calls Try.prog 15 #[.slice (some ⟨g, 0, none⟩) k cap] W fun e w' => ∃ Y, e = .returned (.tuple #[.agg Y, .int .i64 100]) ∧ Below W.heap.size W w' ∧ Hid (∃ t lie, (tabCells t lie).toArray = Y ∧ TabAt w' t lie)) := fun W g cap l k hk hl h1 h2 h3 => by
    have := read_any (some ⟨g, 0, none⟩) l cap W h1 (by rw [hk]; exact h2) h3
    unfold readZ readT at this
    rw [hl, hk] at this
    exact this.mono fun e w' ⟨lie, h1, h2, h3⟩ => ⟨_, h1, h2, ⟨_, _, rfl, h3⟩⟩
  have HFR : Hid (∀ k, k < m → readB (P.take k) = false ∧ (P.take k).length = k) := fun k hk => by
    refine ⟨read_less (P.take k) (P.drop k) (by rw [List.take_append_drop]; exact f1) (fun e => ?_), by rw [List.length_take]; omega⟩
    have := congrArg List.length e
    rw [List.length_drop] at this
    simp at this
    omega
  have HMR : Hid (∀ r, r ≠ [] → readB (P ++ r) = false) := fun r hr => read_more P r f1 hr
  have HM := Lib.hid hm
  have HPOS := Lib.hid hpos
  have HSM := Lib.hid hsm
  obtain ⟨i, hi⟩ : ∃ i, at_ % m = i := ⟨_, rfl⟩
  obtain ⟨k, hk⟩ : ∃ k, cut % m = k := ⟨_, rfl⟩
  have hi2 : i < m := by rw [← hi]; exact Nat.mod_lt _ hpos
  have hk2 : k < m := by rw [← hk]; exact Nat.mod_lt _ hpos
  have hti : (at_ : Int).tmod (m : Int) = (i : Int) := by rw [rem_of _ _ hpos, hi]
  have htk : (cut : Int).tmod (m : Int) = (k : Int) := by rw [rem_of _ _ hpos, hk]
  rw [hi] at hB hC
  obtain ⟨bad, hbad⟩ : ∃ bad, P.set i x = bad := ⟨_, rfl⟩
  rw [hbad] at hB hC
  have HBAD := Lib.hid hbad
  have HBL : Hid (bad.length = m) := by show _ = _; rw [← hbad, List.length_set, hm]
  obtain ⟨S, hS⟩ : ∃ S, bs P = S := ⟨_, rfl⟩
  have HCV : Hid (∀ W a c, BytesAt W a P → (convert 31 9 (.slice a m c)).run Try.prog W = .ok (.string S) W) := fun W a c h => by
    have := conv_any W a P c h
    rw [hm, hS] at this
    exact this
  obtain ⟨S2, hS2⟩ : ∃ S, bs bad = S := ⟨_, rfl⟩
  have HCB : Hid (∀ W a c, BytesAt W a bad → (convert 31 9 (.slice a m c)).run Try.prog W = .ok (.string S2) W) := fun W a c h => by
    have := conv_any W a bad c h
    rw [HBL.out, hS2] at this
    exact this
  have hne1 : S2.toList ≠ S.toList := fun e => hB (by rw [← hS, ← hS2] at e; simpa [bs, ByteArray.toList_eq] using e)
  have hne : (S2.toList == S.toList) = false := by simpa using hne1
  clear hne1 hS hS2
  have HRN := Lib.hid (fun W g cap => HRX.out W g cap bad m HBL.out hC)
  have hm3 : (0 : Int) < (n : Int) := by omega
  have hm4 : ¬ (n : Int) ≤ 20 := by omega
  have hm5 : 0 < n := by omega
  have hcut2 : (cut : Int) < 65536 := by omega
  have hat2 : (at_ : Int) < 65536 := by omega
  have hm0 : ((m : Int) == 0) = false := by simpa using (fun h => by omega : ¬ (m : Int) = 0)
  have HKM := Lib.hid hk2
  have HIM := Lib.hid hi2
  clear h hb hX h0 hf hr hrw hzs hZ f1 f2 hP hm hB hC hi hk hbad hn
  have TOK1 : Hid True := trivial
  have TOK2 : Hid True := trivial
  have TOK3 : Hid True := trivial
  have TOK4 : Hid True := trivial
  have TOK5 : Hid True := trivial
  have TOK6 : Hid True := trivial
  have TOK7 : Hid True := trivial
  have TOK8 : Hid True := trivial
  go_enter Try.func5, Try.ntmps5
  go_wp2_with (first
    | (go_at_call 7; refine (HFW.out _ HW0.out).mono ?_; rintro e w1 ⟨rfl, hb1⟩; have HW1 := Lib.hid (HW0.out.later hb1); have ld1 := HLD.out _ HW1.out; clear hb1)
    | (go_at_call 9; refine (HRT.out _ HW1.out).mono ?_; rintro e w2 ⟨rfl, hb2⟩; have HW2 := Lib.hid (HW1.out.later hb2); have ld2 := HLD.out _ HW2.out; clear hb2)
    | (go_at_call 13; refine (HPK.out _ HW2.out).mono ?_; rintro e w3 ⟨g3, cap3, rfl, HP3, HC3, hb3⟩; have HW3 := Lib.hid (CtW.mk (HW2.out.later hb3) HP3.out); have hkc : k ≤ cap3 := Nat.le_trans (Nat.le_of_lt HKM.out) HC3.out.1; have hcm3 : cap3 ≤ 9223372036854775807 := (by simpa [maxLen] using HC3.out.2); clear hb3)
    | (clear TOK1; go_at_call 15; refine (HRX.out _ _ _ (P.take k) k (HFR.out k HKM.out).2 (HFR.out k HKM.out).1 (take_bytes HW3.out.pk k) hkc HC3.out.2).mono ?_; rintro e w4 ⟨Y4, rfl, hb4, HT4⟩; obtain ⟨e4, hbe4⟩ := made_any w4 Y4 Z HZS.out HT4.out; have HB4 := Lib.hid (hb4.trans (hbe4.mono hb4.size)); have HW4 := Lib.hid (HW3.out.later HB4.out); clear hb4 hbe4 HT4)
    | (clear TOK2; at_builtin; refine app_more rfl _ _ rfl _ (.slice (some ⟨_, 0, none⟩) 0 0) [] rfl (lit_start _ _ (by simp)) ⟨g3, 0, none⟩ m cap3 P rfl HM.out (RowAt.below HW4.out.pk ((Below.refl _ _).alloc (Nat.le_refl _) _)) (by have := HSM.out; simp; omega) ?_; intro v5 w5 ho5; have HO5 : Hid (OutAt _ w5 v5 P) := ho5; clear ho5)
    | (clear TOK3; at_builtin; refine app_more rfl _ _ rfl _ v5 P rfl (HO5.out.alloc _) ⟨w5.heap.size, 0, none⟩ 1 1 [0] rfl rfl (lit_one _) (by have := HSM.out; have := HM.out; omega) ?_; intro v6 w6 ho6; obtain ⟨g6, cap6, rfl, hp6, hc6, hd6⟩ := ho6.bytes (m := m + 1) (by rw [List.length_append, HM.out]; rfl) (by have := HPOS.out; omega); have HP6 := Lib.hid hp6; have HC6 := Lib.hid (And.intro hc6 hd6); have HW6 := Lib.hid (HW4.out.later ho6.low); clear ho6 hp6 hc6 hd6)
    | (clear TOK4; go_at_call 15; refine (HRX.out _ _ _ (P ++ [0]) (m + 1) (by rw [List.length_append, HM.out]; rfl) (HMR.out [0] (by simp)) HP6.out HC6.out.1 HC6.out.2).mono ?_; rintro e w7 ⟨Y7, rfl, hb7, HT7⟩; obtain ⟨e7, hbe7⟩ := made_any w7 Y7 Z HZS.out HT7.out; have HB7 := Lib.hid (hb7.trans (hbe7.mono hb7.size)); have HW7 := Lib.hid (HW6.out.later HB7.out); clear hb7 hbe7 HT7)
    | (clear TOK8; at_builtin; refine app_more rfl _ _ rfl _ (.slice (some ⟨_, 0, none⟩) 0 0) [] rfl (lit_start _ _ (by simp)) ⟨g3, 0, none⟩ m cap3 P rfl HM.out (RowAt.below HW7.out.pk ((Below.refl _ _).alloc (Nat.le_refl _) _)) (by have := HSM.out; simp; omega) ?_; intro v13 w13 ho13; obtain ⟨g13, cap13, rfl, hp13, hc13, hd13⟩ := OutAt.bytes (l := P) ho13 HM.out HPOS.out; have HC13 := Lib.hid (And.intro hc13 hd13); obtain ⟨z13, fz13, ce13⟩ := OutAt.place (l := P) ho13 HM.out i HIM.out; have HO13 := Lib.hid (OutAt.stored (l := P) ho13 HM.out i x); rw [HBAD.out] at HO13; have HW13 := Lib.hid (HW7.out.later HO13.out.low); have HP13 : Hid (BytesAt _ (some ⟨g13, 0, none⟩) bad) := HO13.out.bytes2 HBL.out HPOS.out; clear ho13 hp13 hc13 hd13)
    | (go_at_call 15; refine (HRN.out _ g13 cap13 HP13.out HC13.out.1 HC13.out.2).mono ?_; rintro e w14 ⟨Y14, rfl, hb14, HT14⟩; obtain ⟨e14, hbe14⟩ := made_any w14 Y14 Z HZS.out HT14.out; have HB14 := Lib.hid (hb14.trans (hbe14.mono hb14.size)); have HW14 := Lib.hid (HW13.out.later HB14.out); have cv1 := HCB.out _ _ cap13 (RowAt.below HP13.out HB14.out); have cv2 := HCV.out _ _ cap3 HW14.out.pk; clear hb14 hbe14 HT14)
    | (go_at_call 8; refine (HAW.out _).mono ?_; rintro e w17 ⟨rfl, hb17⟩; have HW17 := Lib.hid (HW14.out.later hb17); clear hb17))
  go_ret
  exact ⟨rfl, HW17.out.k.low⟩
end Go.Proofs.Ytkgfjapflpjdbaa
