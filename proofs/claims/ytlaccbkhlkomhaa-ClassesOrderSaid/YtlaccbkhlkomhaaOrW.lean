/-
  The contract of frankinglaw06.ClassesOrder. Conditions: the trees lie in memory; a byte.
-/
import Derived.Test.YtlaccbkhlkomhaaOrP
namespace Go.Proofs.Ytlaccbkhlkomhaa
open Go.RowKit

attribute [local go_sem ↓] loadCl_eq storeCl_eq eqOp_C
set_option maxRecDepth 100000 in
set_option maxHeartbeats 8000000 in
theorem order_any (a : Option Addr) (c : Nat) (ls : List Ry) (fr : Nat) (hfr : fr < 256) (w : World) (h : RyIn w (· < w.heap.size) a c ls) :
    Calls Try.prog 6 #[.slice a ls.length c, .int .u8 (fr : Int)] w fun e w' => e = .returned (.bool true) ∧ Below w.heap.size w w' := by
  have HFEW := Lib.hid (few6_any a c ls w h)
  have HAW := Lib.hid awake_any
  have HH := Lib.hid h
  obtain ⟨n, hn⟩ : ∃ n, n = ls.length := ⟨_, rfl⟩
  have HN := Lib.hid hn
  rw [← hn] at HFEW ⊢
  clear h hn
  obtain ⟨zs, hzs⟩ : ∃ zs : Array Value, zs = (clCells cl0 0).toArray := ⟨_, rfl⟩
  have hz : ∀ W, (zeroValue 25).run Try.prog W = .ok (.agg zs) W := fun W => by rw [hzs]; kernel_rfl
  have hzn : zs.size = 257 := by rw [hzs]; simp [clCells_len _ _ cl0_len]
  have HST : Hid (∀ (V : List St) (W : World), (StoreCl (.pointer (some ⟨W.heap.size, 0, none⟩)) (.agg (clV V))).run Try.prog (W.alloc (.cells zs 25)) = .ok () (W.alloc (.cells (clV V) 25))) := fun V W => by
    have h2 := storeCl_run (cs := clV V) hzn (clV_size _) (clV_one _) (Blk.new W 25 zs)
    rwa [World.setRow_alloc_new] at h2
  clear hzs
  go_enter Try.func6, Try.ntmps6
  go_upto_if 20 with (go_at_call 8; refine HFEW.out.mono ?_; rintro e w1 ⟨⟨b, rfl, hfew⟩, hb1⟩)
  have HL := Lib.hid hb1
  have HFW := Lib.hid hfew
  clear hb1 hfew HFEW
  cases b with
  | false =>
    go_wp2_with (go_at_call 9; refine (HAW.out _).mono ?_; rintro e w2 ⟨rfl, hb2⟩; have HL2 := Lib.hid (low0 HL.out hb2 (Nat.le_refl _)); clear hb2)
    go_ret
    exact ⟨rfl, HL2.out⟩
  | true =>
    have HF6 := Lib.hid (HFW.out (by simp))
    have HRC := Lib.hid (right6_any a c ls w1 ((HH.out.under HL.out).mono (fun b _ hb => Nat.lt_of_lt_of_le hb HL.out.size)) HF6.out)
    rw [← HN.out] at HRC
    clear HFW
    go_upto_region 4 with (go_at_call 18; refine HRC.out.mono ?_; rintro e w2 ⟨⟨v, rfl, ho⟩, hb2⟩)
    obtain ⟨a', c', rfl, hri⟩ := ho.slice hb2
    have HL2 := Lib.hid (low0 HL.out hb2 (Nat.le_refl _))
    have HRI := Lib.hid hri
    have HFR := Lib.hid (few_filter HF6.out rightR)
    have HRR : Hid (∀ t ∈ ls.filter rightR, rightR t = true) := fun t ht => (List.mem_filter.1 ht).2
    generalize ls.filter rightR = rs at *
    have hcc := hri.len
    obtain ⟨m, hm⟩ : ∃ m, m = rs.length := ⟨_, rfl⟩
    have hm6 : m ≤ 6 := by rw [hm]; exact HFR.out.1
    have HM := Lib.hid hm
    rw [← hm] at hcc ⊢
    have hmc : m ≤ c' := hcc.2
    clear ho hb2 hri HRC HL HH HN HF6 hm hcc
    have HO2 : Hid (∀ W, Below w2.heap.size w2 W → Calls Try.prog 10 #[.slice a' m c'] W fun e w' => e = .returned (.tuple #[.agg (clV (setsL rs)), .int .i64 0]) ∧ Below W.heap.size W w') := fun W hW => by
      have h1 := of_any a' c' rs W ((HRI.out.under hW).mono (fun b _ hb => Nat.lt_of_lt_of_le hb hW.size)) (by have := few_all HFR.out; omega)
      rw [ofV_right HRR.out, ← HM.out] at h1
      exact h1
    have HOK := Lib.hid (sets_ok HRI.out)
    have HMEM : Hid (∀ t ∈ rs, ∀ s ∈ setsL [t], s ∈ setsL rs) := fun t ht => setsL_mem ht
    have HSOME := Lib.hid (sets_some HRR.out)
    have HLEN : Hid ((setsL rs).length ≤ 1200) := Nat.le_trans (setsL_len rs) (few_all HFR.out)
    have HSUB : Hid (∀ L : List Ry, (∀ t ∈ L, t ∈ rs) → (∀ t ∈ rs, t ∈ L) → clV (setsL L) = clV (setsL rs)) := fun L h1 h2 => clV_same (fun s => ⟨fun hs => by
      obtain ⟨t, ht, hst⟩ := setsL_of L s hs
      exact setsL_mem (h1 t ht) s hst, fun hs => by
      obtain ⟨t, ht, hst⟩ := setsL_of rs s hs
      exact setsL_mem (h2 t ht) s hst⟩)
    have HTK : Hid (∀ (k : Nat) (hk : k < rs.length), setsL (rs.take (k + 1)) = setsL (rs.take k) ++ setsL [rs[k]]) := fun k hk => setsL_take hk
    have HALL : Hid (setsL (rs.take m) = setsL rs) := by show _ = _; rw [HM.out, List.take_length]
    obtain ⟨V, hV⟩ : ∃ V, V = setsL rs := ⟨_, rfl⟩
    rw [← hV] at HO2 HOK HMEM HALL HSUB HSOME HLEN
    clear hV
    have HREFL : Hid (∀ W, (EqOp 25 (.agg (clV V)) (.agg (clV V))).run Try.prog W = .ok (.bool true) W) := fun W => clV_refl V W
    have hst2 := HST.out V
    go_upto_region 5 with (go_at_call 10; refine (HO2.out _ (Below.refl _ _)).mono ?_; rintro e w4 ⟨rfl, hb4⟩)
    have HL4 := Lib.hid ((Below.trans (Below.refl w2.heap.size w2) hb4).alloc hb4.size (.cells (clV V) 25))
    have HB2 := Lib.hid (Blk.new w4 25 (clV V))
    clear hb4 hst2 HO2
    generalize w4.alloc (.cells (clV V) 25) = W4 at *
    generalize w4.heap.size = b2 at *
    have HLB : Hid (∀ (W : World) (b : Nat), Blk W b 25 (clV V) → (LoadCl (.pointer (some ⟨b, 0, none⟩))).run Try.prog W = .ok (.agg (clV V)) W) := fun W b hb => loadCl_run (clL_cp V).len hb
    go_wp2
    go_loopw [7, 32] (fun o i wr => ∃ (k : Nat) (L : List Ry), k ≤ 2 * m ∧ i = .int .i64 k ∧ L.length = k ∧ Hid (∀ t ∈ L, t ∈ rs) ∧ Hid (∀ i, i < k → ∀ t, rs[(i + fr) % m]? = some t → t ∈ L) ∧ Hid (wr.ownsRow W4.heap.size 42 6 o L.length (L.flatMap ryCells)) ∧ Hid (Below W4.heap.size W4 wr)) (fun _ i _ => 2 * m - (intOf i).toNat)
    case atStart => exact ⟨0, [], Nat.zero_le _, rfl, rfl, (fun t ht => absurd ht (List.not_mem_nil)), (fun i hi => absurd hi (Nat.not_lt_zero i)), World.ownsRow_nil _ _ _ _, Below.refl _ _⟩
    case round =>
      obtain ⟨k, L, hk, rfl, hLk, HIN, HHAS, HO, HB⟩ := hrel
      obtain ⟨o, ho⟩ : ∃ o, u7 = o := ⟨_, rfl⟩
      rw [ho] at HO ⊢
      clear ho
      have HLK := Lib.hid hLk
      clear hLk
      by_cases hlt : k < 2 * m
      · have hlt' : (k : Int) < 2 * m := by omega
        have h0' : (0 : Int) ≤ k := by omega
        have hm0 : 0 < m := by omega
        have hm0' : ¬ (m : Int) = 0 := by omega
        obtain ⟨ix, hix⟩ : ∃ ix, ix = (k + fr) % m := ⟨_, rfl⟩
        have HIX := Lib.hid hix
        have hixm : ix < m := by rw [hix]; exact Nat.mod_lt _ hm0
        have hrem := rem_of (k + fr) m hm0
        rw [← hix, Int.natCast_add] at hrem
        have hixm' : (ix : Int) < m := by omega
        have hix0 : (0 : Int) ≤ ix := by omega
        have hko : ix < rs.length := by rw [← HM.out]; exact hixm
        obtain ⟨b, off, rfl, hbl, _, hxok, hxc, hxk⟩ := HRI.out.at_ hko
        obtain ⟨t, ht⟩ : ∃ t, t = rs[ix]'hko := ⟨_, rfl⟩
        rw [← ht] at hxc hxk hxok
        have hcw : ∀ o, wr.cell? ⟨b, o, none⟩ = w2.cell? ⟨b, o, none⟩ := fun o => (HL4.out.trans (HB.out.mono HL4.out.size)).cell (p := ⟨b, o, none⟩) hbl
        have a0 := (hcw (off + ix * 6 + 0)).trans (hxc 0 _ rfl)
        have a1 := (hcw (off + ix * 6 + 1)).trans (hxc 1 _ rfl)
        have a2 := (hcw (off + ix * 6 + 2)).trans (hxc 2 _ rfl)
        have a3 := (hcw (off + ix * 6 + 3)).trans (hxc 3 _ rfl)
        have a4 := (hcw (off + ix * 6 + 4)).trans (hxc 4 _ rfl)
        have a5 := (hcw (off + ix * 6 + 5)).trans (hxc 5 _ rfl)
        rw [Nat.add_zero] at a0
        have HTM : Hid (t ∈ rs ∧ rs[ix]? = some t) := ⟨by rw [ht]; exact List.getElem_mem _, by rw [ht]; exact List.getElem?_eq_getElem hko⟩
        have HCE : Hid (#[.int .u8 (t.kind : Int), .int .u64 (t.s0 : Int), .int .u64 (t.s1 : Int), .int .u64 (t.s2 : Int), .int .u64 (t.s3 : Int), .slice t.a t.kids.length t.cap] = (ryCells t).toArray) := by show _ = _; rfl
        obtain ⟨xl, hxl⟩ : ∃ xl, xl = t.kids.length := ⟨_, rfl⟩
        rw [← hxl] at a5 HCE
        clear hxc hxk hxok hbl hcw hxl ht hix
        have hfr0 : (0 : Int) ≤ fr := by omega
        have hfr1 : (fr : Int) < 256 := by omega
        have hL12 : L.length ≤ 12 := by rw [HLK.out]; omega
        have hbs : W4.heap.size ≤ wr.heap.size := HB.out.size
        go_wp2_with (at_builtin; refine wpList_app_re rfl _ _ rfl W4.heap.size o L t rfl (HO.out.alloc _) wr.heap.size _ HCE.out rfl (Blk.new _ _ _) (by omega) (by rw [World.size_alloc]; omega) ?_; intro v' w5 hown5 hg5; have HO5 := Lib.hid hown5; have HG5 := Lib.hid hg5; clear hown5 hg5)
        go_roundw
        case rel =>
          refine ⟨k + 1, L ++ [t], by omega, by go_num, by rw [List.length_append, HLK.out]; rfl, ?_, ?_, HO5.out, ?_⟩
          · intro z hz
            rcases List.mem_append.1 hz with hz | hz
            · exact HIN.out z hz
            · obtain rfl := List.mem_singleton.1 hz
              exact HTM.out.1
          · intro i hi z hz
            by_cases hik : i < k
            · exact List.mem_append_left _ (HHAS.out i hik z hz)
            · obtain rfl : i = k := by omega
              rw [← HIX.out, HTM.out.2] at hz
              injection hz with hz
              subst hz
              exact List.mem_append_right _ (List.mem_singleton.2 rfl)
          · refine HB.out.trans (((Below.refl W4.heap.size wr).alloc hbs _).grown HG5.out (by rw [World.size_alloc]; omega) (fun r hr => (HO.out.lt r hr).1))
        case measure => simp [intOf]; omega
      · obtain rfl : k = 2 * m := by omega
        have HALLIN : Hid (∀ t ∈ rs, t ∈ L) := fun t ht => by
          obtain ⟨j, hj, rfl⟩ := List.getElem_of_mem ht
          rw [← HM.out] at hj
          have hm0 : 0 < m := by omega
          have h1 : fr % m < m := Nat.mod_lt _ hm0
          have h2 := Nat.div_add_mod fr m
          by_cases hc : fr % m ≤ j
          · refine HHAS.out (j - fr % m) (by omega) _ ?_
            rw [show j - fr % m + fr = j + m * (fr / m) by omega, Nat.add_mul_mod_self_left, Nat.mod_eq_of_lt hj]
            exact List.getElem?_eq_getElem _
          · refine HHAS.out (j + m - fr % m) (by omega) _ ?_
            rw [show j + m - fr % m + fr = j + m * (fr / m) + m by omega, Nat.add_mod_right, Nat.add_mul_mod_self_left, Nat.mod_eq_of_lt hj]
            exact List.getElem?_eq_getElem _
        have HL12 : Hid (L.length ≤ 12) := by show _ ≤ _; rw [HLK.out]; omega
        obtain ⟨a7, c7, rfl, hli⟩ := res_in HO.out (fun t ht => by
          obtain ⟨j, hj, rfl⟩ := List.getElem_of_mem (HIN.out t ht)
          obtain ⟨b, off, _, _, _, h1, _, h2⟩ := HRI.out.at_ hj
          exact ⟨h1, (h2.under (HL4.out.trans (HB.out.mono HL4.out.size))).mono (fun b _ hb => Nat.lt_of_lt_of_le hb (HL4.out.trans (HB.out.mono HL4.out.size)).size)⟩)
        have HLI := Lib.hid hli
        have HOT : Hid (∀ W, Below wr.heap.size wr W → Calls Try.prog 10 #[.slice a7 L.length c7] W fun e w' => e = .returned (.tuple #[.agg (clV V), .int .i64 0]) ∧ Below W.heap.size W w') := fun W hW => by
          have h1 := of_any a7 c7 L W ((HLI.out.under hW).mono (fun b _ hb => Nat.lt_of_lt_of_le hb hW.size)) (by
            have := preL_bound (m := 200) L (fun t ht => HFR.out.2 t (HIN.out t ht))
            have := HL12.out
            omega)
          rw [ofV_right (fun t ht => HRR.out t (HIN.out t ht)), HSUB.out L HIN.out HALLIN.out] at h1
          exact h1
        have hwa : Below w2.heap.size w2 wr := HL4.out.trans (HB.out.mono HL4.out.size)
        have HBA := Lib.hid (keep0 HB2.out HB.out)
        have HWA := Lib.hid hwa
        rw [HLK.out] at HOT ⊢
        clear hwa hli HIN HHAS HALLIN HLI HO HLK HB HB2 HL4 HSUB
        generalize wr = wa at *
        go_wp2
        go_loopw [8, 51] (fun o i w3 => ∃ k : Nat, k ≤ m ∧ i = .int .i64 k ∧ Hid (w3.ownsRow wa.heap.size 42 6 o ((setsL (rs.take k)).map oneR).length (((setsL (rs.take k)).map oneR).flatMap ryCells)) ∧ Hid (Below wa.heap.size wa w3)) (fun _ i _ => m - (intOf i).toNat)
        case atStart => exact ⟨0, Nat.zero_le _, rfl, World.ownsRow_nil _ _ _ _, Below.refl _ _⟩
        case round =>
          obtain ⟨k, hk, rfl, HO, HB⟩ := hrel
          obtain ⟨o, ho⟩ : ∃ o, u8 = o := ⟨_, rfl⟩
          rw [ho] at HO ⊢
          clear ho
          by_cases hlt : k < m
          · have hlt' : (k : Int) < m := by omega
            have h0' : (0 : Int) ≤ k := by omega
            have hko : k < rs.length := by rw [← HM.out]; exact hlt
            have hwb : Below w2.heap.size w2 wr := HWA.out.trans (HB.out.mono HWA.out.size)
            obtain ⟨b, off, rfl, hbl, _, hxok, hxc, hxk⟩ := HRI.out.at_ hko
            obtain ⟨t, ht⟩ : ∃ t, t = rs[k]'hko := ⟨_, rfl⟩
            rw [← ht] at hxc hxk hxok
            have hcw : ∀ o, wr.cell? ⟨b, o, none⟩ = w2.cell? ⟨b, o, none⟩ := fun o => hwb.cell (p := ⟨b, o, none⟩) hbl
            have a0 := (hcw (off + k * 6 + 0)).trans (hxc 0 _ rfl)
            have a1 := (hcw (off + k * 6 + 1)).trans (hxc 1 _ rfl)
            have a2 := (hcw (off + k * 6 + 2)).trans (hxc 2 _ rfl)
            have a3 := (hcw (off + k * 6 + 3)).trans (hxc 3 _ rfl)
            have a4 := (hcw (off + k * 6 + 4)).trans (hxc 4 _ rfl)
            have a5 := (hcw (off + k * 6 + 5)).trans (hxc 5 _ rfl)
            rw [Nat.add_zero] at a0
            have hpx : (preR t).length ≤ 200 := HFR.out.2 t (by rw [ht]; exact List.getElem_mem _)
            have HST6 := Lib.hid (sets_any t w2 (wr.alloc (.cells (ryCells t).toArray 42)) hxk (hwb.alloc hwb.size _) (by omega))
            have HBA : Hid (Below wa.heap.size wa (wr.alloc (.cells (ryCells t).toArray 42)) ∧ (wr.alloc (.cells (ryCells t).toArray 42)).ownsRow wa.heap.size 42 6 o ((setsL (rs.take k)).map oneR).length (((setsL (rs.take k)).map oneR).flatMap ryCells)) := ⟨HB.out.alloc HB.out.size _, HO.out.alloc _⟩
            have HTK1 : Hid (setsL (rs.take (k + 1)) = setsL (rs.take k) ++ setsL [t]) := by show _ = _; rw [HTK.out k hko, ← ht]
            have HMV : Hid (∀ s ∈ setsL [t], s ∈ V) := HMEM.out t (by rw [ht]; exact List.getElem_mem _)
            have HSL : Hid ((setsL [t]).length ≤ 200) := Nat.le_trans (setsL_len [t]) (by rw [show preL [t] = preR t from by simp [preL]]; exact hpx)
            have hpl : (setsL (rs.take k)).length ≤ 1200 := Nat.le_trans (setsL_len _) (few_all (few_take HFR.out k))
            obtain ⟨xl, hxl⟩ : ∃ xl, xl = t.kids.length := ⟨_, rfl⟩
            unfold ryCells at HST6 HBA
            rw [← hxl] at a5 HST6 HBA
            generalize setsL [t] = U at *
            generalize setsL (rs.take k) = P at *
            obtain ⟨q, hq⟩ : ∃ q, q = U.length := ⟨_, rfl⟩
            have HQ := Lib.hid hq
            have hq2 : q ≤ 200 := by rw [hq]; exact HSL.out
            rw [← hq] at HST6
            clear hxc hxk hxok hbl hcw hxl ht hq hpx HSL hwb
            go_wp2_with (go_at_call 19; refine HST6.out.mono ?_; rintro e w5 ⟨v5, rfl, ho5, hb5⟩; obtain ⟨a6, c6, rfl, hrow⟩ := own_slice ho5 (by rw [setCells_len, ← HQ.out]; unfold maxLen; omega); have HS6 : Hid (∃ B6, w5.ownsRow B6 28 4 (.slice a6 q c6) q (setCells U)) := ⟨_, ho5⟩; have HO6 := Lib.hid (ownsRow_kept HBA.out.2 hb5); have HB6 := Lib.hid (low0 HBA.out.1 hb5 (Nat.le_refl _)); clear ho5 hb5 hrow)
            clear HST6 HBA HO HB
            go_loopw [8, 58] (fun o i w4 => ∃ j : Nat, j ≤ q ∧ i = .int .i64 j ∧ Hid (w4.ownsRow wa.heap.size 42 6 o ((P ++ U.take j).map oneR).length (((P ++ U.take j).map oneR).flatMap ryCells)) ∧ Hid (∃ B6, w4.ownsRow B6 28 4 (.slice a6 q c6) q (setCells U)) ∧ Hid (Below wa.heap.size wa w4)) (fun _ i _ => q - (intOf i).toNat)
            case atStart => exact ⟨0, Nat.zero_le _, rfl, by rw [List.take_zero, List.append_nil]; exact HO6.out, HS6.out, HB6.out⟩
            case round =>
              obtain ⟨j, hj, rfl, HO7, HS7, HB7⟩ := hrel
              obtain ⟨o2, ho⟩ : ∃ o, u8 = o := ⟨_, rfl⟩
              rw [ho] at HO7 ⊢
              clear ho
              by_cases hjl : j < q
              · have hjl' : (j : Int) < q := by omega
                have h0j : (0 : Int) ≤ j := by omega
                have hju : j < U.length := by rw [← HQ.out]; exact hjl
                obtain ⟨B6, h6⟩ := HS7.out
                obtain ⟨g, of, rfl, hgl, d0, d1, d2, d3⟩ := setCells_row (row_of_own h6 (by rw [setCells_len, ← HQ.out]; unfold maxLen; omega)) hju
                obtain ⟨s, hs⟩ : ∃ s, s = U[j]'hju := ⟨_, rfl⟩
                rw [← hs] at d0 d1 d2 d3
                have HEQ : Hid ((P ++ U.take (j + 1)).map oneR = (P ++ U.take j).map oneR ++ [oneR s]) := by show _ = _; rw [List.take_succ_eq_append_getElem hju, ← hs, ← List.append_assoc, List.map_append]; rfl
                have hll : ((P ++ U.take j).map oneR).length ≤ 100000 := by rw [List.length_map, List.length_append, List.length_take]; omega
                have HONE : Hid (∀ W, Calls Try.prog 21 #[.agg #[.int .u64 (s.s0 : Int), .int .u64 (s.s1 : Int), .int .u64 (s.s2 : Int), .int .u64 (s.s3 : Int)]] W fun e w' => e = .returned (.agg #[.int .u8 1, .int .u64 (s.s0 : Int), .int .u64 (s.s1 : Int), .int .u64 (s.s2 : Int), .int .u64 (s.s3 : Int), .slice none 0 0]) ∧ Below W.heap.size W w') := fun W => one_any s W
                have HS6' := Lib.hid h6
                generalize (P ++ U.take j).map oneR = LL at *
                clear hs hgl h6 HS7 hju
                go_wp2_with (first
                  | (go_at_call 21; refine (HONE.out _).mono ?_; rintro e w6 ⟨rfl, hb6⟩; have HO8 := Lib.hid (ownsRow_kept (HO7.out.alloc _) hb6); have HS8 := Lib.hid (ownsRow_kept (HS6'.out.alloc _) hb6); have HB8 := Lib.hid (low1 HB7.out hb6 (Nat.le_refl _)); clear hb6)
                  | (at_builtin; refine wpList_app_re rfl _ _ rfl wa.heap.size o2 LL (oneR s) rfl (HO8.out.alloc _) w6.heap.size _ rfl rfl (Blk.new _ _ _) hll (by have := HB8.out.size; rw [World.size_alloc]; omega) ?_; intro v' w7 hown7 hg7; have HO9 := Lib.hid hown7; have HG9 := Lib.hid hg7; clear hown7 hg7))
                go_roundw
                case rel =>
                  refine ⟨j + 1, by omega, by go_num, by rw [HEQ.out]; exact HO9.out, ⟨_, (HS8.out.alloc _).kept HG9.out (own_apart HS8.out HO8.out (by decide))⟩, ?_⟩
                  exact HB8.out.trans (((Below.refl wa.heap.size w6).alloc HB8.out.size _).grown HG9.out (by have := HB8.out.size; rw [World.size_alloc]; omega) (fun r hr => (HO8.out.lt r hr).1))
                case measure => simp [intOf]; omega
              · obtain rfl : j = q := by omega
                go_wp2
                go_roundw
                case rel =>
                  refine ⟨o2, _, _, .int .i64 ((k : Int) + 1), _, _, _, _, _, _, _, _, _, _, _, _, _, _, _, _, _, ⟨k + 1, by omega, by go_num, ?_, HB7.out⟩, rfl⟩
                  have h1 := HO7.out
                  rw [HQ.out, List.take_length, ← HTK1.out] at h1
                  exact h1
                case measure => simp [intOf]; omega
          · obtain rfl : k = m := by omega
            have ho8 := HO.out
            rw [HALL.out] at ho8
            obtain ⟨a8, c8, rfl, hli8⟩ := ones_in ho8 HOK.out
            have HLI8 := Lib.hid hli8
            obtain ⟨N8, hN8⟩ : ∃ N, N = (V.map oneR).length := ⟨_, rfl⟩
            have HN8 := Lib.hid hN8
            have HOF : Hid (∀ W, Below wr.heap.size wr W → Calls Try.prog 10 #[.slice a8 N8 c8] W fun e w' => e = .returned (.tuple #[.agg (clV V), .int .i64 0]) ∧ Below W.heap.size W w') := fun W hW => by
              have h1 := of_any a8 c8 (V.map oneR) W ((HLI8.out.under hW).mono (fun b _ hb => Nat.lt_of_lt_of_le hb hW.size)) (by rw [preL_ones]; have := HLEN.out; omega)
              rw [ofV_right (fun t ht => by
                obtain ⟨s, hs, rfl⟩ := List.mem_map.1 ht
                exact HSOME.out s hs), setsL_ones, ← HN8.out] at h1
              exact h1
            rw [← hN8]
            have HBA2 := Lib.hid (keep0 HBA.out HB.out)
            have HWB : Hid (Below w2.heap.size w2 wr) := HWA.out.trans (HB.out.mono HWA.out.size)
            have HOT2 : Hid (∀ W, Below wr.heap.size wr W → Calls Try.prog 10 #[.slice a7 (2 * k) c7] W fun e w' => e = .returned (.tuple #[.agg (clV V), .int .i64 0]) ∧ Below W.heap.size W w') := fun W hW => HOT.out W (HB.out.trans (hW.mono HB.out.size))
            clear ho8 hli8 HLI8 hN8 HN8 HO HB HOT HWA HBA
            have hst2 := HST.out V
            have hre := HREFL.out
            go_upto_region 21 with (go_at_call 10; refine (HOT2.out _ (Below.refl _ _)).mono ?_; rintro e w5 ⟨rfl, hb5⟩)
            have HL5 := Lib.hid ((Below.trans (Below.refl wr.heap.size wr) hb5).alloc hb5.size (.cells (clV V) 25))
            have HB14 := Lib.hid (Blk.new w5 25 (clV V))
            have HBA3 := Lib.hid ((keep0 HBA2.out hb5).alloc (.cells (clV V) 25))
            clear hb5 HOT2 HBA2
            generalize w5.alloc (.cells (clV V) 25) = W5 at *
            generalize w5.heap.size = b14 at *
            go_upto_region 22 with (go_at_call 10; refine (HOF.out _ HL5.out).mono ?_; rintro e w6 ⟨rfl, hb6⟩)
            have HL6 := Lib.hid ((low0 HL5.out hb6 (Nat.le_refl _)).alloc (low0 HL5.out hb6 (Nat.le_refl _)).size (.cells (clV V) 25))
            have HB16 := Lib.hid (Blk.new w6 25 (clV V))
            have HB14 := Lib.hid ((keep0 HB14.out hb6).alloc (.cells (clV V) 25))
            have HBA4 := Lib.hid ((keep0 HBA3.out hb6).alloc (.cells (clV V) 25))
            clear hb6 HOF HL5 hst2 HBA3
            generalize w6.alloc (.cells (clV V) 25) = W6 at *
            generalize w6.heap.size = b16 at *
            have l2 := HLB.out _ _ HBA4.out
            have l14 := HLB.out _ _ HB14.out
            have l16 := HLB.out _ _ HB16.out
            go_wp2_with (go_at_call 9; refine (HAW.out _).mono ?_; rintro e w9 ⟨rfl, hb9⟩; have HL9 := Lib.hid (low0 HL6.out hb9 (Nat.le_refl _)); clear hb9)
            go_ret
            exact ⟨rfl, HL2.out.trans ((low_trans HWB.out HL9.out).mono HL2.out.size)⟩
end Go.Proofs.Ytlaccbkhlkomhaa
