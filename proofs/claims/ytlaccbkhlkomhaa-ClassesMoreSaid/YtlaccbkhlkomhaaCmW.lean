/-
  The contract of frankinglaw06.ClassesMore. Conditions: the trees lie in memory; bytes.
-/
import Derived.Test.YtlaccbkhlkomhaaCmP
namespace Go.Proofs.Ytlaccbkhlkomhaa
open Go.RowKit

attribute [local go_sem ↓] loadCl_eq storeCl_eq
set_option maxRecDepth 100000 in
set_option maxHeartbeats 8000000 in
theorem more_any (a : Option Addr) (c : Nat) (ls : List Ry) (fw x y : Nat) (hfw : fw < 256) (hx : x < 256) (hy : y < 256) (w : World) (h : RyIn w (· < w.heap.size) a c ls) :
    Calls Try.prog 5 #[.slice a ls.length c, .int .u8 (fw : Int), .int .u8 (x : Int), .int .u8 (y : Int)] w fun e w' => e = .returned (.bool true) ∧ Below w.heap.size w w' := by
  have HFEW := Lib.hid (few6_any a c ls w h)
  have HAW := Lib.hid awake_any
  have HH := Lib.hid h
  obtain ⟨n, hn⟩ : ∃ n, n = ls.length := ⟨_, rfl⟩
  have HN := Lib.hid hn
  rw [← hn] at HFEW ⊢
  clear h hn
  obtain ⟨zs, hzs⟩ : ∃ zs : Array Value, zs = (clCells cl0 0).toArray := ⟨_, rfl⟩
  have hz : ∀ W, (zeroValue 25).run Try.prog W = .ok (.agg zs) W := fun W => by rw [hzs]; kernel_rfl
  have hzn : zs.size = 257 := by rw [hzs]; simp [clCells_len _ _ cl0_len]
  have HST : Hid (∀ (V : List St) (W : World), (StoreCl (.pointer (some ⟨W.heap.size, 0, none⟩)) (.agg (clV V))).run Try.prog (W.alloc (.cells zs 25)) = .ok () (W.alloc (.cells (clV V) 25))) := fun V W => by
    have h2 := storeCl_run (cs := clV V) hzn (clV_size _) (clV_one _) (Blk.new W 25 zs)
    rwa [World.setRow_alloc_new] at h2
  clear hzs
  go_enter Try.func5, Try.ntmps5
  go_upto_if 23 with (go_at_call 8; refine HFEW.out.mono ?_; rintro e w1 ⟨⟨b, rfl, hfew⟩, hb1⟩)
  have HL := Lib.hid hb1
  have HFW := Lib.hid hfew
  clear hb1 hfew HFEW
  cases b with
  | false =>
    go_wp2_with (go_at_call 9; refine (HAW.out _).mono ?_; rintro e w2 ⟨rfl, hb2⟩; have HL2 := Lib.hid (low0 HL.out hb2 (Nat.le_refl _)); clear hb2)
    go_ret
    exact ⟨rfl, HL2.out⟩
  | true =>
    have HF6 := Lib.hid (HFW.out (by simp))
    have HRC := Lib.hid (right6_any a c ls w1 ((HH.out.under HL.out).mono (fun b _ hb => Nat.lt_of_lt_of_le hb HL.out.size)) HF6.out)
    rw [← HN.out] at HRC
    clear HFW
    go_upto_region 4 with (go_at_call 18; refine HRC.out.mono ?_; rintro e w2 ⟨⟨v, rfl, ho⟩, hb2⟩)
    obtain ⟨a', c', rfl, hri⟩ := ho.slice hb2
    have HL2 := Lib.hid (low0 HL.out hb2 (Nat.le_refl _))
    have HRI := Lib.hid hri
    have HFR := Lib.hid (few_filter HF6.out rightR)
    have HRR : Hid (∀ t ∈ ls.filter rightR, rightR t = true) := fun t ht => (List.mem_filter.1 ht).2
    generalize ls.filter rightR = rs at *
    have hcc := hri.len
    obtain ⟨m, hm⟩ : ∃ m, m = rs.length := ⟨_, rfl⟩
    have hm6 : m ≤ 6 := by rw [hm]; exact HFR.out.1
    have HM := Lib.hid hm
    rw [← hm] at hcc ⊢
    have hmc : m ≤ c' := hcc.2
    clear ho hb2 hri HRC HL HH HN HF6 hm hcc
    go_upto_if 29 with (fail)
    go_cut [9] (fun v wx => ∃ k : Nat, v = .int .i64 k ∧ k ≤ m ∧ w2 = wx)
    case first =>
      by_cases h0 : 0 < m
      · have h0' : (0 : Int) < (m : Int) := by omega
        have hrem := rem_of fw (m + 1) (by omega)
        have hkm : fw % (m + 1) ≤ m := by have := Nat.mod_lt fw (show 0 < m + 1 by omega); omega
        generalize fw % (m + 1) = q at *
        have hm1 : ((m + 1 : Nat) : Int) = (m : Int) + 1 := by omega
        rw [hm1] at hrem
        go_wp2
        go_meet
        exact ⟨q, rfl, hkm, rfl⟩
      · have h0' : ¬ (0 : Int) < (m : Int) := by omega
        go_wp2
        go_meet
        exact ⟨0, rfl, by omega, rfl⟩
    case rest =>
      obtain ⟨k, rfl, hkm, rfl⟩ := hcut
      have hsl := re_slice_to a' m c' k (by omega)
      have HO1 : Hid (∀ W, Below w2.heap.size w2 W → Calls Try.prog 10 #[.slice a' k c'] W fun e w' => e = .returned (.tuple #[.agg (clV (setsL (rs.take k))), .int .i64 0]) ∧ Below W.heap.size W w') := fun W hW => by
        have h1 := of_any a' c' (rs.take k) W (((HRI.out.take k).under hW).mono (fun b _ hb => Nat.lt_of_lt_of_le hb hW.size)) (by have := few_all (few_take HFR.out k); omega)
        rw [ofV_right (fun t ht => HRR.out t (List.mem_of_mem_take ht)), List.length_take, ← HM.out, Nat.min_eq_left hkm] at h1
        exact h1
      have HO2 : Hid (∀ W, Below w2.heap.size w2 W → Calls Try.prog 10 #[.slice a' m c'] W fun e w' => e = .returned (.tuple #[.agg (clV (setsL rs)), .int .i64 0]) ∧ Below W.heap.size W w') := fun W hW => by
        have h1 := of_any a' c' rs W ((HRI.out.under hW).mono (fun b _ hb => Nat.lt_of_lt_of_le hb hW.size)) (by have := few_all HFR.out; omega)
        rw [ofV_right HRR.out, ← HM.out] at h1
        exact h1
      have HSUB : Hid (∀ s ∈ setsL (rs.take k), s ∈ setsL rs) := fun s hs => by
        have := List.take_append_drop k rs
        rw [← this, setsL_app]
        exact List.mem_append_left _ hs
      generalize setsL (rs.take k) = V1 at *
      generalize setsL rs = V2 at *
      have hst1 := HST.out V1
      have HV1 := Lib.hid (clL_cp V1)
      have HV2 := Lib.hid (clL_cp V2)
      have HLB : Hid (∀ (W : World) (B : Nat), Blk W B 25 (clV V2) → (LoadCl (.pointer (some ⟨B, 0, none⟩))).run Try.prog W = .ok (.agg (clV V2)) W) := fun W B hb => loadCl_run (clL_cp V2).len hb
      have HFI : Hid (∀ (z : Int) W, Calls Try.prog 12 #[.agg (clV V2), .int .i64 z] W fun e w' => e = .returned (firstV (clL V2) (manyOf (clL V2) : Int) z) ∧ Below W.heap.size W w') := fun z W => first_any (clL V2) (manyOf (clL V2) : Int) z W (clL_cp V2).len
      go_upto_region 8 with (go_at_call 10; refine (HO1.out _ (Below.refl _ _)).mono ?_; rintro e w3 ⟨rfl, hb3⟩)
      have HL3 := Lib.hid ((Below.trans (Below.refl w2.heap.size w2) hb3).alloc hb3.size (.cells (clV V1) 25))
      have HB1 := Lib.hid (Blk.new w3 25 (clV V1))
      clear hb3 hst1
      generalize w3.alloc (.cells (clV V1) 25) = W3 at *
      generalize w3.heap.size = b1 at *
      have hst2 := HST.out V2
      go_upto_region 9 with (go_at_call 10; refine (HO2.out _ HL3.out).mono ?_; rintro e w4 ⟨rfl, hb4⟩)
      have HL4 := Lib.hid ((low0 HL3.out hb4 (Nat.le_refl _)).alloc (low0 HL3.out hb4 (Nat.le_refl _)).size (.cells (clV V2) 25))
      have HB1 := Lib.hid ((keep0 HB1.out hb4).alloc (.cells (clV V2) 25))
      have HB2 := Lib.hid (Blk.new w4 25 (clV V2))
      clear hb4 hst2 HO1 HO2 HL3
      generalize w4.alloc (.cells (clV V2) 25) = W4 at *
      generalize w4.heap.size = b2 at *
      obtain ⟨p, hp⟩ : ∃ p, p = ((clL V1).getD x 0).toNat := ⟨_, rfl⟩
      obtain ⟨q, hq⟩ : ∃ q, q = ((clL V1).getD y 0).toNat := ⟨_, rfl⟩
      obtain ⟨r, hr⟩ : ∃ r, r = ((clL V2).getD x 0).toNat := ⟨_, rfl⟩
      obtain ⟨s, hs⟩ : ∃ s, s = ((clL V2).getD y 0).toNat := ⟨_, rfl⟩
      obtain ⟨m1, hm1⟩ : ∃ m1, m1 = manyOf (clL V1) := ⟨_, rfl⟩
      obtain ⟨m2, hm2⟩ : ∃ m2, m2 = manyOf (clL V2) := ⟨_, rfl⟩
      have e0 : W4.cell? ⟨b1, 256, none⟩ = some (.int .i64 (m1 : Int)) := by rw [HB1.out.cell, hm1]; exact clV_many V1
      have e1 : W4.cell? ⟨b2, 256, none⟩ = some (.int .i64 (m2 : Int)) := by rw [HB2.out.cell, hm2]; exact clV_many V2
      have e2 : W4.cell? ⟨b1, x, none⟩ = some (.int .u8 (p : Int)) := by rw [HB1.out.cell, hp]; exact clV_at V1 x hx
      have e3 : W4.cell? ⟨b1, y, none⟩ = some (.int .u8 (q : Int)) := by rw [HB1.out.cell, hq]; exact clV_at V1 y hy
      have e4 : W4.cell? ⟨b2, x, none⟩ = some (.int .u8 (r : Int)) := by rw [HB2.out.cell, hr]; exact clV_at V2 x hx
      have e5 : W4.cell? ⟨b2, y, none⟩ = some (.int .u8 (s : Int)) := by rw [HB2.out.cell, hs]; exact clV_at V2 y hy
      have hfin := HV1.out.finer HV2.out HSUB.out
      have hpr : r = s → p = q := fun h => by
        have := hfin.1 x y hx hy (UInt8.toNat_inj.1 (by rw [← hr, ← hs]; exact h))
        rw [hp, hq, this]
      have hmm : m1 ≤ m2 := by rw [hm1, hm2]; exact hfin.2
      have hmp : 1 ≤ m2 := by rw [hm2]; exact HV2.out.pos
      have hm256 : m2 ≤ 256 := by rw [hm2]; exact HV2.out.few
      obtain ⟨kk, hkk⟩ : ∃ kk, kk = x % m2 := ⟨_, rfl⟩
      have hkm2 : kk < m2 := by rw [hkk]; exact Nat.mod_lt _ (by omega)
      obtain ⟨f, hf1, hf2, hf3, hf4⟩ := HV2.out.first (k := kk) (by rw [← hm2]; exact hkm2)
      have HF1 : Hid (firstV (clL V2) (m2 : Int) (kk : Int) = .tuple #[.int .u8 (f : Int), .bool true]) := by
        show _ = _
        rw [hm2, firstV_of, if_pos (by rw [← hm2]; exact hkm2), hf1]
      have HF2 : Hid (firstV (clL V2) (m2 : Int) (m2 : Int) = .tuple #[.int .u8 0, .bool false]) := by
        show _ = _
        rw [hm2, firstV_of, if_neg (by omega)]
      have HF3 : Hid (firstV (clL V2) (m2 : Int) (-1 : Int) = .tuple #[.int .u8 0, .bool false]) := by
        show _ = _
        unfold firstV
        rw [if_neg (by omega)]
      have e6 : W4.cell? ⟨b2, f, none⟩ = some (.int .u8 (kk : Int)) := by rw [HB2.out.cell, ← hf3]; exact clV_at V2 f hf2
      have hsf : y < f → s < kk := fun h => by rw [hs]; exact hf4 y h
      have hrem := rem_of x m2 (by omega)
      rw [← hkk] at hrem
      rw [← hm2] at HFI
      have l4 := HLB.out _ _ HB2.out
      clear hfin hp hq hr hs hm1 hm2 hkk hf1 hf3 hf4 HV1 HV2 HSUB
      have h10 : ((m2 : Int) < 1) = False := by simp; omega
      have h11 : ((m2 : Int) < (m1 : Int)) = False := by simp; omega
      go_upto_if 87 with (fail)
      go_cut [87] (fun v wx => v = .bool false ∧ Below W4.heap.size W4 wx)
      case first =>
        have d0 : decide ((m2 : Int) < 1) = false := by rw [decide_eq_false_iff_not]; omega
        have d1 : decide ((m2 : Int) < (m1 : Int)) = false := by rw [decide_eq_false_iff_not]; omega
        by_cases hpq : p = q
        · subst hpq
          clear hpr
          go_quiet (fail)
          go_wp2
          go_meet
          exact ⟨rfl, below_drewNc (Below.refl _ _) _⟩
        · have hrs : r ≠ s := fun h => hpq (hpr h)
          have d2 : ((p : Int) == (q : Int)) = false := by rw [beq_eq_false_iff_ne]; omega
          have d3 : ((r : Int) == (s : Int)) = false := by rw [beq_eq_false_iff_ne]; omega
          have d4 : ((p : Int) != (q : Int)) = true := by rw [bne_iff_ne]; omega
          have d5 : ¬ (p : Int) = (q : Int) := by omega
          have d6 : ¬ (r : Int) = (s : Int) := by omega
          clear hpr
          go_quiet (fail)
          go_wp2
          go_meet
          exact ⟨rfl, below_drewNc (Below.refl _ _) _⟩
      case rest =>
        obtain ⟨rfl, hbc⟩ := hcut
        have HL5 := Lib.hid (low_trans HL4.out hbc)
        have HB3 := Lib.hid (HB2.out.below hbc HB2.out.lt)
        have hcw : ∀ j v, W4.cell? ⟨b2, j, none⟩ = some v → wc.cell? ⟨b2, j, none⟩ = some v := fun j v hv => (hbc.cell (p := ⟨b2, j, none⟩) HB2.out.lt).trans hv
        have g1 := hcw _ _ e1
        have g5 := hcw _ _ e5
        have g6 := hcw _ _ e6
        have l5 := HLB.out _ _ HB3.out
        have HEL : Hid (W4.cell? ⟨b2, y, none⟩ = some (.int .u8 (s : Int)) ∧ W4.cell? ⟨b2, 256, none⟩ = some (.int .i64 (m2 : Int)) ∧ W4.cell? ⟨b2, f, none⟩ = some (.int .u8 (kk : Int))) := ⟨e5, e1, e6⟩
        clear e0 e1 e2 e3 e4 e5 e6 l4 hbc hcw hpr hmm
        have hm20 : ¬ (m2 : Int) = 0 := by omega
        have HQ1 := Lib.hid (HFI.out (kk : Int) wc)
        rw [HF1.out] at HQ1
        have HCW : Hid (∀ W', Below wc.heap.size wc W' → Blk W' b2 25 (clV V2) ∧ W'.cell? ⟨b2, y, none⟩ = some (.int .u8 (s : Int)) ∧ W'.cell? ⟨b2, 256, none⟩ = some (.int .i64 (m2 : Int)) ∧ W'.cell? ⟨b2, f, none⟩ = some (.int .u8 (kk : Int)) ∧ (LoadCl (.pointer (some ⟨b2, 0, none⟩))).run Try.prog W' = .ok (.agg (clV V2)) W') := fun W' hW' => by
          have h1 := HB3.out.below hW' HB3.out.lt
          exact ⟨h1, (hW'.cell (p := ⟨b2, y, none⟩) HB3.out.lt).trans g5, (hW'.cell (p := ⟨b2, 256, none⟩) HB3.out.lt).trans g1, (hW'.cell (p := ⟨b2, f, none⟩) HB3.out.lt).trans g6, HLB.out _ _ h1⟩
        go_upto_region 13 with (go_at_call 12; refine HQ1.out.mono ?_; rintro e w6 ⟨rfl, hb6⟩; have HB6 := Lib.hid hb6; obtain ⟨-, k5, k1, k6, l6⟩ := HCW.out _ hb6; clear hb6)
        clear g1 g5 g6 l5 HQ1
        by_cases hyf : y < f
        · have d0 : decide ((y : Int) < (f : Int)) = true := by rw [decide_eq_true_iff]; omega
          have d2 : (y : Int) < (f : Int) := by omega
          have d1 : decide ((kk : Int) ≤ (s : Int)) = false := by have := hsf hyf; rw [decide_eq_false_iff_not]; omega
          have d3 : ¬ (kk : Int) ≤ (s : Int) := by have := hsf hyf; omega
          clear hsf
          have HQ2 := Lib.hid (HFI.out (m2 : Int) w6)
          rw [HF2.out] at HQ2
          go_upto_region 15 with (fail)
          go_upto_region 16 with (go_at_call 12; refine HQ2.out.mono ?_; rintro e w8 ⟨rfl, hb8⟩; have HB8 := Lib.hid (low_trans HB6.out hb8); obtain ⟨-, n5, n1, n6, n7⟩ := HCW.out _ HB8.out; clear hb8)
          have HQ3 := Lib.hid (HFI.out (-1 : Int) w8)
          rw [HF3.out] at HQ3
          clear k5 k1 k6 l6
          go_wp2_with (first
            | (go_at_call 12; refine HQ3.out.mono ?_; rintro e w9 ⟨rfl, hb9⟩; have HB9 := Lib.hid (low_trans HB8.out hb9); clear hb9)
            | (go_at_call 9; refine (HAW.out _).mono ?_; rintro e w10 ⟨rfl, hb10⟩; have HB10 := Lib.hid (low_trans HB9.out hb10); clear hb10))
          go_ret
          exact ⟨rfl, HL2.out.trans ((low_trans HL5.out HB10.out).mono HL2.out.size)⟩
        · have d0 : decide ((y : Int) < (f : Int)) = false := by rw [decide_eq_false_iff_not]; omega
          have d2 : ¬ (y : Int) < (f : Int) := by omega
          clear hsf
          have HQ2 := Lib.hid (HFI.out (m2 : Int) w6)
          rw [HF2.out] at HQ2
          go_upto_region 15 with (fail)
          go_upto_region 16 with (go_at_call 12; refine HQ2.out.mono ?_; rintro e w8 ⟨rfl, hb8⟩; have HB8 := Lib.hid (low_trans HB6.out hb8); obtain ⟨-, n5, n1, n6, n7⟩ := HCW.out _ HB8.out; clear hb8)
          have HQ3 := Lib.hid (HFI.out (-1 : Int) w8)
          rw [HF3.out] at HQ3
          clear k5 k1 k6 l6
          go_wp2_with (first
            | (go_at_call 12; refine HQ3.out.mono ?_; rintro e w9 ⟨rfl, hb9⟩; have HB9 := Lib.hid (low_trans HB8.out hb9); clear hb9)
            | (go_at_call 9; refine (HAW.out _).mono ?_; rintro e w10 ⟨rfl, hb10⟩; have HB10 := Lib.hid (low_trans HB9.out hb10); clear hb10))
          go_ret
          exact ⟨rfl, HL2.out.trans ((low_trans HL5.out HB10.out).mono HL2.out.size)⟩
end Go.Proofs.Ytlaccbkhlkomhaa
