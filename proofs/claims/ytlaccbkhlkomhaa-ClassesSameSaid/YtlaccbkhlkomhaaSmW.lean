/-
  The contract of frankinglaw06.ClassesSame. Conditions: the trees lie in memory; bytes.
-/
import Derived.Test.YtlaccbkhlkomhaaSmP
import Derived.StillTailTactics
namespace Go.Proofs.Ytlaccbkhlkomhaa
open Go.RowKit

attribute [local go_sem ↓] loadCl_eq storeCl_eq
set_option maxRecDepth 100000 in
set_option maxHeartbeats 8000000 in
theorem same_any (a : Option Addr) (c : Nat) (ls : List Ry) (x y : Nat) (hx : x < 256) (hy : y < 256) (w : World) (h : RyIn w (· < w.heap.size) a c ls) :
    Calls Try.prog 4 #[.slice a ls.length c, .int .u8 (x : Int), .int .u8 (y : Int)] w fun e w' => e = .returned (.bool true) ∧ Below w.heap.size w w' := by
  have HFEW := Lib.hid (few6_any a c ls w h)
  have HAW := Lib.hid awake_any
  have HH := Lib.hid h
  obtain ⟨n, hn⟩ : ∃ n, n = ls.length := ⟨_, rfl⟩
  have HN := Lib.hid hn
  rw [← hn] at HFEW ⊢
  clear h hn
  obtain ⟨zs, hzs⟩ : ∃ zs : Array Value, zs = (clCells cl0 0).toArray := ⟨_, rfl⟩
  have hz : ∀ W, (zeroValue 25).run Try.prog W = .ok (.agg zs) W := fun W => by rw [hzs]; kernel_rfl
  have hzn : zs.size = 257 := by rw [hzs]; simp [clCells_len _ _ cl0_len]
  have HST : Hid (∀ (V : List St) (W : World), (StoreCl (.pointer (some ⟨W.heap.size, 0, none⟩)) (.agg (clV V))).run Try.prog (W.alloc (.cells zs 25)) = .ok () (W.alloc (.cells (clV V) 25))) := fun V W => by
    have h2 := storeCl_run (cs := clV V) hzn (clV_size _) (clV_one _) (Blk.new W 25 zs)
    rwa [World.setRow_alloc_new] at h2
  clear hzs
  go_enter Try.func4, Try.ntmps4
  go_upto_if 16 with (go_at_call 8; refine HFEW.out.mono ?_; rintro e w1 ⟨⟨b, rfl, hfew⟩, hb1⟩)
  have HL := Lib.hid hb1
  have HFW := Lib.hid hfew
  clear hb1 hfew HFEW
  cases b with
  | false =>
    go_wp2_with (go_at_call 9; refine (HAW.out _).mono ?_; rintro e w2 ⟨rfl, hb2⟩; have HL2 := Lib.hid (low0 HL.out hb2 (Nat.le_refl _)); clear hb2)
    go_ret
    exact ⟨rfl, HL2.out⟩
  | true =>
    have HF6 := Lib.hid (HFW.out (by simp))
    have HRC := Lib.hid (right6_any a c ls w1 ((HH.out.under HL.out).mono (fun b _ hb => Nat.lt_of_lt_of_le hb HL.out.size)) HF6.out)
    rw [← HN.out] at HRC
    clear HFW
    go_upto_region 4 with (go_at_call 18; refine HRC.out.mono ?_; rintro e w2 ⟨⟨v, rfl, ho⟩, hb2⟩)
    obtain ⟨a', c', rfl, hri⟩ := ho.slice hb2
    have HL2 := Lib.hid (low0 HL.out hb2 (Nat.le_refl _))
    have HRI := Lib.hid hri
    have HFR := Lib.hid (few_filter HF6.out rightR)
    have HRR : Hid (∀ t ∈ ls.filter rightR, rightR t = true) := fun t ht => (List.mem_filter.1 ht).2
    generalize ls.filter rightR = rs at *
    have hcc := hri.len
    obtain ⟨m, hm⟩ : ∃ m, m = rs.length := ⟨_, rfl⟩
    have hm6 : m ≤ 6 := by rw [hm]; exact HFR.out.1
    have HM := Lib.hid hm
    rw [← hm] at hcc ⊢
    have hmc : m ≤ c' := hcc.2
    clear ho hb2 hri HRC HL HH HN HF6 hm hcc
    have HO2 : Hid (∀ W, Below w2.heap.size w2 W → Calls Try.prog 10 #[.slice a' m c'] W fun e w' => e = .returned (.tuple #[.agg (clV (setsL rs)), .int .i64 0]) ∧ Below W.heap.size W w') := fun W hW => by
      have h1 := of_any a' c' rs W ((HRI.out.under hW).mono (fun b _ hb => Nat.lt_of_lt_of_le hb hW.size)) (by have := few_all HFR.out; omega)
      rw [ofV_right HRR.out, ← HM.out] at h1
      exact h1
    have HOK := Lib.hid (sets_ok HRI.out)
    have HMEM : Hid (∀ t ∈ rs, ∀ s ∈ setsL [t], s ∈ setsL rs) := fun t ht => setsL_mem ht
    have HTK : Hid (∀ (k : Nat) (hk : k < rs.length), setsL (rs.take (k + 1)) = setsL (rs.take k) ++ setsL [rs[k]]) := fun k hk => setsL_take hk
    have HALL : Hid (setsL (rs.take m) = setsL rs) := by show _ = _; rw [HM.out, List.take_length]
    obtain ⟨V, hV⟩ : ∃ V, V = setsL rs := ⟨_, rfl⟩
    rw [← hV] at HO2 HOK HMEM HALL
    clear hV
    have HCP := Lib.hid (clL_cp V)
    have hst2 := HST.out V
    go_upto_region 5 with (go_at_call 10; refine (HO2.out _ (Below.refl _ _)).mono ?_; rintro e w4 ⟨rfl, hb4⟩)
    have HL4 := Lib.hid ((Below.trans (Below.refl w2.heap.size w2) hb4).alloc hb4.size (.cells (clV V) 25))
    have HB2 := Lib.hid (Blk.new w4 25 (clV V))
    have hge : w2.heap.size ≤ w4.heap.size := hb4.size
    clear hb4 hst2 HO2
    generalize w4.alloc (.cells (clV V) 25) = W4 at *
    generalize w4.heap.size = b2 at *
    have HLB : Hid (∀ (W : World), Blk W b2 25 (clV V) → (LoadCl (.pointer (some ⟨b2, 0, none⟩))).run Try.prog W = .ok (.agg (clV V)) W) := fun W hb => loadCl_run (clL_cp V).len hb
    have HCR : Hid (∀ W, Calls Try.prog 14 #[.agg (clV V)] W fun e w' => e = .returned (.bool true) ∧ Below W.heap.size W w') := fun W => by
      have := clRight_any (clL V) (manyOf (clL V) : Int) W (clL_cp V).len
      rw [(clL_cp V).right] at this
      exact this
    have HFI : Hid (∀ s ∈ V, ∀ W, Calls Try.prog 16 #[.agg (clV V), .agg #[.int .u64 (s.s0 : Int), .int .u64 (s.s1 : Int), .int .u64 (s.s2 : Int), .int .u64 (s.s3 : Int)]] W fun e w' => e = .returned (.bool true) ∧ Below W.heap.size W w') := fun s hs W => by
      have := fits_any (clL V) (manyOf (clL V) : Int) s W (clL_cp V).len (HOK.out s hs)
      rw [(clL_cp V).right, (clL_cp V).fits_mem hs] at this
      exact this
    have HIN : Hid (∀ s ∈ V, ∀ (z : Nat), z < 256 → ∀ W, Calls Try.prog 20 #[.agg #[.int .u64 (s.s0 : Int), .int .u64 (s.s1 : Int), .int .u64 (s.s2 : Int), .int .u64 (s.s3 : Int)], .int .u8 (z : Int)] W fun e w' => e = .returned (.bool (inS s z)) ∧ Below W.heap.size W w') := fun s hs z hz W => in_any s z hz (HOK.out s hs) W
    have l4 := HLB.out _ HB2.out
    go_wp2_with (go_at_call 14; refine (HCR.out _).mono ?_; rintro e w5 ⟨rfl, hb5⟩; have HW5 : Hid (Below w2.heap.size w2 w5 ∧ Blk w5 b2 25 (clV V)) := ⟨low0 HL4.out hb5 (Nat.le_refl _), keep0 HB2.out hb5⟩; clear hb5)
    clear l4 HCR HL4 HB2
    go_loopw [9, 34] (fun s i wr => ∃ k : Nat, k ≤ m ∧ i = .int .i64 k ∧ s = .bool (agB x y (setsL (rs.take k))) ∧ Hid (Below w2.heap.size w2 wr ∧ Blk wr b2 25 (clV V))) (fun _ i _ => m - (intOf i).toNat)
    case atStart => exact ⟨0, Nat.zero_le _, rfl, rfl, HW5.out⟩
    case round =>
      obtain ⟨k, hk, rfl, rfl, HB⟩ := hrel
      obtain ⟨f1, hf1⟩ : ∃ f, f = agB x y (setsL (rs.take k)) := ⟨_, rfl⟩
      have HF1 := Lib.hid hf1
      rw [← hf1]
      clear hf1
      by_cases hlt : k < m
      · have hlt' : (k : Int) < m := by omega
        have h0' : (0 : Int) ≤ k := by omega
        have hko : k < rs.length := by rw [← HM.out]; exact hlt
        obtain ⟨b, off, rfl, hbl, _, hxok, hxc, hxk⟩ := HRI.out.at_ hko
        obtain ⟨t, ht⟩ : ∃ t, t = rs[k]'hko := ⟨_, rfl⟩
        rw [← ht] at hxc hxk hxok
        have hcw : ∀ o, wr.cell? ⟨b, o, none⟩ = w2.cell? ⟨b, o, none⟩ := fun o => HB.out.1.cell (p := ⟨b, o, none⟩) hbl
        have a0 := (hcw (off + k * 6 + 0)).trans (hxc 0 _ rfl)
        have a1 := (hcw (off + k * 6 + 1)).trans (hxc 1 _ rfl)
        have a2 := (hcw (off + k * 6 + 2)).trans (hxc 2 _ rfl)
        have a3 := (hcw (off + k * 6 + 3)).trans (hxc 3 _ rfl)
        have a4 := (hcw (off + k * 6 + 4)).trans (hxc 4 _ rfl)
        have a5 := (hcw (off + k * 6 + 5)).trans (hxc 5 _ rfl)
        rw [Nat.add_zero] at a0
        have hpx : (preR t).length ≤ 200 := HFR.out.2 t (by rw [ht]; exact List.getElem_mem _)
        have HBA : Hid (Below w2.heap.size w2 (wr.alloc (.cells (ryCells t).toArray 42)) ∧ Blk (wr.alloc (.cells (ryCells t).toArray 42)) b2 25 (clV V)) := ⟨HB.out.1.alloc HB.out.1.size _, HB.out.2.alloc _⟩
        have HST := Lib.hid (sets_any t w2 (wr.alloc (.cells (ryCells t).toArray 42)) hxk HBA.out.1 (by omega))
        have HTK1 : Hid (setsL (rs.take (k + 1)) = setsL (rs.take k) ++ setsL [t]) := by show _ = _; rw [HTK.out k hko, ← ht]
        have HMV : Hid (∀ s ∈ setsL [t], s ∈ V) := HMEM.out t (by rw [ht]; exact List.getElem_mem _)
        have HSL : Hid ((setsL [t]).length ≤ 200) := Nat.le_trans (setsL_len [t]) (by rw [show preL [t] = preR t from by simp [preL]]; exact hpx)
        obtain ⟨xl, hxl⟩ : ∃ xl, xl = t.kids.length := ⟨_, rfl⟩
        unfold ryCells at HST HBA
        rw [← hxl] at a5 HST HBA
        generalize setsL [t] = U at *
        obtain ⟨q, hq⟩ : ∃ q, q = U.length := ⟨_, rfl⟩
        have HQ := Lib.hid hq
        have hq2 : q ≤ 200 := by rw [hq]; exact HSL.out
        rw [← hq] at HST
        clear hxc hxk hxok hbl hcw hxl ht hq hpx HSL
        go_wp2_with (go_at_call 19; refine HST.out.mono ?_; rintro e w5 ⟨v5, rfl, ho5, hb5⟩; obtain ⟨a6, c6, rfl, hrow⟩ := own_slice ho5 (by rw [setCells_len, ← HQ.out]; unfold maxLen; omega); have HW6 : Hid (Below w2.heap.size w2 w5 ∧ Blk w5 b2 25 (clV V) ∧ RowAt w5 a6 (setCells U)) := ⟨low0 HBA.out.1 hb5 (Nat.le_refl _), keep0 HBA.out.2 hb5, hrow⟩; clear ho5 hb5 hrow)
        go_loopw [9, 41] (fun s i wr2 => ∃ j : Nat, j ≤ q ∧ i = .int .i64 j ∧ s = .bool (f1 && agB x y (U.take j)) ∧ Hid (Below w2.heap.size w2 wr2 ∧ Blk wr2 b2 25 (clV V) ∧ RowAt wr2 a6 (setCells U))) (fun _ i _ => q - (intOf i).toNat)
        case atStart => exact ⟨0, Nat.zero_le _, rfl, by rw [List.take_zero]; simp [agB], HW6.out⟩
        case round =>
          obtain ⟨j, hj, rfl, rfl, HB6⟩ := hrel
          by_cases hjl : j < q
          · have hjl' : (j : Int) < q := by omega
            have h0j : (0 : Int) ≤ j := by omega
            have hju : j < U.length := by rw [← HQ.out]; exact hjl
            obtain ⟨g, of, rfl, hgl, d0, d1, d2, d3⟩ := setCells_row HB6.out.2.2 hju
            obtain ⟨s, hs⟩ : ∃ s, s = U[j]'hju := ⟨_, rfl⟩
            rw [← hs] at d0 d1 d2 d3
            have hsV : s ∈ V := HMV.out s (by rw [hs]; exact List.getElem_mem _)
            have HINS := Lib.hid (HIN.out s hsV)
            have HFIS := Lib.hid (HFI.out s hsV)
            have HAG : Hid (agB x y (U.take (j + 1)) = (agB x y (U.take j) && (inS s x == inS s y))) := by show _ = _; rw [List.take_succ_eq_append_getElem hju, agB_app, agB_one, hs]
            obtain ⟨f2, hf2⟩ : ∃ f, f = (f1 && agB x y (U.take j)) := ⟨_, rfl⟩
            have HF2 : Hid ((f1 && agB x y (U.take (j + 1))) = (f2 && (inS s x == inS s y))) := by show _ = _; rw [HAG.out, ← Bool.and_assoc, ← hf2]
            rw [← hf2]
            have HW7 : Hid (Below w2.heap.size w2 (wr.alloc (.cells (setC s).toArray 28)) ∧ Blk (wr.alloc (.cells (setC s).toArray 28)) b2 25 (clV V) ∧ RowAt (wr.alloc (.cells (setC s).toArray 28)) (some ⟨g, of, none⟩) (setCells U)) := ⟨HB6.out.1.alloc HB6.out.1.size _, HB6.out.2.1.alloc _, HB6.out.2.2.below ((Below.refl _ _).alloc (Nat.le_refl _) _)⟩
            have HX7 := Lib.hid (Blk.new wr 28 (setC s).toArray)
            obtain ⟨ix, hix⟩ : ∃ i, i = inS s x := ⟨_, rfl⟩
            obtain ⟨iy, hiy⟩ : ∃ i, i = inS s y := ⟨_, rfl⟩
            have HIX : Hid (∀ W, Calls Try.prog 20 #[.agg #[.int .u64 (s.s0 : Int), .int .u64 (s.s1 : Int), .int .u64 (s.s2 : Int), .int .u64 (s.s3 : Int)], .int .u8 (x : Int)] W fun e w' => e = .returned (.bool ix) ∧ Below W.heap.size W w') := by rw [hix]; exact HINS.out x hx
            have HIY : Hid (∀ W, Calls Try.prog 20 #[.agg #[.int .u64 (s.s0 : Int), .int .u64 (s.s1 : Int), .int .u64 (s.s2 : Int), .int .u64 (s.s3 : Int)], .int .u8 (y : Int)] W fun e w' => e = .returned (.bool iy) ∧ Below W.heap.size W w') := by rw [hiy]; exact HINS.out y hy
            rw [← hix, ← hiy] at HF2
            unfold setC at HW7 HX7
            clear HINS HAG hf2 hs hsV hgl hix hiy HB6
            go_upto_region 14 with (fail)
            generalize (wr.alloc (.cells (List.toArray [Value.int .u64 (s.s0 : Int), Value.int .u64 (s.s1 : Int), Value.int .u64 (s.s2 : Int), Value.int .u64 (s.s3 : Int)]) 28)) = W7 at *
            generalize wr.heap.size = b7 at *
            go_cut [9] (fun v wx => v = .bool (f2 && (ix == iy)) ∧ Below W7.heap.size W7 wx)
            case first =>
              have HSW : Hid (∀ W, Below W7.heap.size W7 W → (Below W7.heap.size W7 W ∧ W.cell? ⟨b7, 0, none⟩ = some (.int .u64 (s.s0 : Int)) ∧ W.cell? ⟨b7, 1, none⟩ = some (.int .u64 (s.s1 : Int)) ∧ W.cell? ⟨b7, 2, none⟩ = some (.int .u64 (s.s2 : Int)) ∧ W.cell? ⟨b7, 3, none⟩ = some (.int .u64 (s.s3 : Int)))) := fun W hW => by
                have hb := HX7.out.below hW HX7.out.lt
                exact ⟨hW, by rw [hb.cell]; rfl, by rw [hb.cell]; rfl, by rw [hb.cell]; rfl, by rw [hb.cell]; rfl⟩
              cases f2 with
              | false =>
                go_quiet (fail)
                go_wp2
                go_meet
                exact ⟨rfl, below_drewNc (Below.refl _ _) _⟩
              | true =>
                have HS1 := Lib.hid (HSW.out _ (Below.refl _ _).drew)
                go_region_held3 (fun W => Below W7.heap.size W7 W ∧ W.cell? ⟨b7, 0, none⟩ = some (.int .u64 (s.s0 : Int)) ∧ W.cell? ⟨b7, 1, none⟩ = some (.int .u64 (s.s1 : Int)) ∧ W.cell? ⟨b7, 2, none⟩ = some (.int .u64 (s.s2 : Int)) ∧ W.cell? ⟨b7, 3, none⟩ = some (.int .u64 (s.s3 : Int)))
                  (first | (with_reducible exact HS1.out) | (with_reducible exact HS2.out) | (with_reducible exact HS3.out))
                  ((go_at_call 20; first | (with_reducible refine (HIX.out W7.drew).mono ?_; rintro e w8 ⟨rfl, hb8⟩; have HS2 := Lib.hid (HSW.out _ (low0 HS1.out.1 hb8 (Nat.le_refl _))); clear hb8) | (refine (HIY.out _).mono ?_; rintro e w9 ⟨rfl, hb9⟩; have HS3 := Lib.hid (HSW.out _ (low0 HS2.out.1 hb9 (Nat.le_refl _))); clear hb9)))
                go_wp2
                go_meet
                exact ⟨rfl, HS3.out.1⟩
            case rest =>
              obtain ⟨rfl, hbc⟩ := hcut
              have HW8 : Hid (Below w2.heap.size w2 wc ∧ Blk wc b2 25 (clV V) ∧ RowAt wc (some ⟨g, of, none⟩) (setCells U)) := ⟨low0 HW7.out.1 hbc (Nat.le_refl _), keep0 HW7.out.2.1 hbc, HW7.out.2.2.below hbc⟩
              have hx8 := HX7.out.below hbc HX7.out.lt
              have t0 := hx8.cell 0
              have t1 := hx8.cell 1
              have t2 := hx8.cell 2
              have t3 := hx8.cell 3
              simp at t0 t1 t2 t3
              have l8 := HLB.out _ HW8.out.2.1
              clear hbc hx8
              go_wp2_with (go_at_call 16; refine (HFIS.out _).mono ?_; rintro e w9 ⟨rfl, hb9⟩; have HW9 : Hid (Below w2.heap.size w2 w9 ∧ Blk w9 b2 25 (clV V) ∧ RowAt w9 (some ⟨g, of, none⟩) (setCells U)) := ⟨low0 HW8.out.1 hb9 (Nat.le_refl _), keep0 HW8.out.2.1 hb9, HW8.out.2.2.below hb9⟩; clear hb9)
              go_roundw
              case rel => exact ⟨j + 1, by omega, by go_num, by rw [HF2.out], HW9.out⟩
              case measure => simp [intOf]; omega
          · obtain rfl : j = q := by omega
            go_wp2
            go_roundw
            case rel =>
              refine ⟨k + 1, by omega, by go_num, ?_, HB6.out.1, HB6.out.2.1⟩
              rw [HTK1.out, agB_app, ← HF1.out, HQ.out, List.take_length]
            case measure => simp [intOf]; omega
      · obtain rfl : k = m := by omega
        obtain ⟨p, hp⟩ : ∃ p, p = ((clL V).getD x 0).toNat := ⟨_, rfl⟩
        obtain ⟨q, hq⟩ : ∃ q, q = ((clL V).getD y 0).toNat := ⟨_, rfl⟩
        have e2 : wr.cell? ⟨b2, x, none⟩ = some (.int .u8 (p : Int)) := by rw [HB.out.2.cell, hp]; exact clV_at V x hx
        have e3 : wr.cell? ⟨b2, y, none⟩ = some (.int .u8 (q : Int)) := by rw [HB.out.2.cell, hq]; exact clV_at V y hy
        have hpq : p = q ↔ f1 = true := by
          rw [HF1.out, HALL.out, agB_iff, ← HCP.out.same x y hx hy, hp, hq]
          exact UInt8.toNat_inj
        have hx1 : (x : Int) < 256 := by omega
        have hy1 : (y : Int) < 256 := by omega
        have hx0 : (0 : Int) ≤ x := by omega
        have hy0 : (0 : Int) ≤ y := by omega
        have hbd := HB.out.1.drew
        have HBD := Lib.hid hbd
        clear hp hq hbd
        go_upto_region 19 with (fail)
        cases f1 with
        | true =>
          obtain rfl := hpq.2 rfl
          clear hpq
          go_still_tail 12, (by kernel_rfl)
          go_wp2_with (go_at_call 9; refine (HAW.out _).mono ?_; rintro e w9 ⟨rfl, hb9⟩; have HL9 := Lib.hid (low0 HBD.out hb9 (Nat.le_refl _)); clear hb9)
          go_ret
          exact ⟨rfl, HL2.out.trans (HL9.out.mono HL2.out.size)⟩
        | false =>
          have hne : ¬ p = q := fun h => by have := hpq.1 h; cases this
          have d2 : ((p : Int) == (q : Int)) = false := by rw [beq_eq_false_iff_ne]; omega
          clear hpq
          go_still_tail 12, (by kernel_rfl)
          go_wp2_with (go_at_call 9; refine (HAW.out _).mono ?_; rintro e w9 ⟨rfl, hb9⟩; have HL9 := Lib.hid (low0 HBD.out hb9 (Nat.le_refl _)); clear hb9)
          go_ret
          exact ⟨rfl, HL2.out.trans (HL9.out.mono HL2.out.size)⟩
end Go.Proofs.Ytlaccbkhlkomhaa
