/-
  The contract of frankingref06.Of: it is that of classes.Of. Conditions: the trees lie in memory; at most 100000 nodes.
-/
import Derived.Test.YtlaccbkhlkomhaaCtP
import Derived.Deep.CutBlock
import Derived.Deep.DeepCutAuto
namespace Go.Proofs.Ytlaccbkhlkomhaa
open Go.RowKit

attribute [local go_sem ↓] loadCl_eq storeCl_eq
set_option maxRecDepth 100000 in
set_option maxHeartbeats 4000000 in
theorem rOf_any (a : Option Addr) (n : Nat) (ls : List Ry) (w : World) (hr : RyIn w (· < w.heap.size) a n ls) (hN : (preL ls).length ≤ 100000) :
    Calls Try.prog 11 #[.slice a ls.length n] w fun e w' => e = .returned (ofV ls) ∧ Below w.heap.size w w' := by
  have HR := Lib.hid hr
  have HNN := Lib.hid hN
  have hq2 := hr.len.1
  unfold maxLen at hq2
  have hql := preL_len ls
  obtain ⟨q, hq⟩ : ∃ q, q = ls.length := ⟨_, rfl⟩
  have HQ := Lib.hid hq
  rw [← hq] at hq2 ⊢
  obtain ⟨zs, hzs⟩ : ∃ zs : Array Value, zs = (clCells cl0 0).toArray := ⟨_, rfl⟩
  have hz : ∀ W, (zeroValue 25).run Try.prog W = .ok (.agg zs) W := fun W => by rw [hzs]; kernel_rfl
  have HZ := Lib.hid hzs
  have hzn : zs.size = 257 := by rw [hzs]; simp [clCells_len _ _ cl0_len]
  have HZO : Hid (zs.all (·.oneCell') = true) := by show _ = _; rw [hzs]; exact cl_one _ _
  have HW0 : Hid (Below w.heap.size w (w.alloc (.cells zs 25)) ∧ Blk (w.alloc (.cells zs 25)) w.heap.size 25 zs) := ⟨(Below.refl _ _).alloc (Nat.le_refl _) _, Blk.new _ _ _⟩
  clear hr hN hq hql hzs
  go_enter Try.func11, Try.ntmps11
  go_wp2
  go_loopw [4, 5] (fun o i wr => ∃ k : Nat, k ≤ q ∧ i = .int .i64 k ∧ Hid (∀ t ∈ ls.take k, rightR t = true) ∧ Hid (wr.ownsRow w.heap.size 28 4 o (setsL (ls.take k)).length (setCells (setsL (ls.take k)))) ∧ Hid (Below w.heap.size w wr ∧ Blk wr w.heap.size 25 zs)) (fun _ i _ => q - (intOf i).toNat)
  case atStart => exact ⟨0, Nat.zero_le _, rfl, fun t ht => by simp at ht, World.ownsRow_nil _ _ _ _, HW0.out⟩
  case round =>
    obtain ⟨k, hk, rfl, HA, HO, HB⟩ := hrel
    obtain ⟨o, ho⟩ : ∃ o, u4 = o := ⟨_, rfl⟩
    rw [ho] at HO ⊢
    clear ho
    by_cases hlt : k < q
    · have hlt' : (k : Int) < q := by omega
      have h0' : (0 : Int) ≤ k := by omega
      have hko : k < ls.length := by rw [← HQ.out]; exact hlt
      obtain ⟨b, off, rfl, hbl, _, hxok, hxc, hxk⟩ := HR.out.at_ hko
      obtain ⟨x, hx⟩ : ∃ x, x = ls[k]'hko := ⟨_, rfl⟩
      rw [← hx] at hxc hxk hxok
      have hcw : ∀ o, wr.cell? ⟨b, o, none⟩ = w.cell? ⟨b, o, none⟩ := fun o => HB.out.1.cell (p := ⟨b, o, none⟩) hbl
      have a0 := (hcw (off + k * 6 + 0)).trans (hxc 0 _ rfl)
      have a1 := (hcw (off + k * 6 + 1)).trans (hxc 1 _ rfl)
      have a2 := (hcw (off + k * 6 + 2)).trans (hxc 2 _ rfl)
      have a3 := (hcw (off + k * 6 + 3)).trans (hxc 3 _ rfl)
      have a4 := (hcw (off + k * 6 + 4)).trans (hxc 4 _ rfl)
      have a5 := (hcw (off + k * 6 + 5)).trans (hxc 5 _ rfl)
      rw [Nat.add_zero] at a0
      have HCW : Hid (∀ W, Below w.heap.size w W → ∀ o v, w.cell? ⟨b, o, none⟩ = some v → W.cell? ⟨b, o, none⟩ = some v) := fun W hW o v hv => (hW.cell (p := ⟨b, o, none⟩) hbl).trans hv
      have HXC : Hid (w.cell? ⟨b, off + k * 6, none⟩ = some (.int .u8 (x.kind : Int)) ∧ w.cell? ⟨b, off + k * 6 + 1, none⟩ = some (.int .u64 (x.s0 : Int)) ∧ w.cell? ⟨b, off + k * 6 + 2, none⟩ = some (.int .u64 (x.s1 : Int)) ∧ w.cell? ⟨b, off + k * 6 + 3, none⟩ = some (.int .u64 (x.s2 : Int)) ∧ w.cell? ⟨b, off + k * 6 + 4, none⟩ = some (.int .u64 (x.s3 : Int)) ∧ w.cell? ⟨b, off + k * 6 + 5, none⟩ = some (.slice x.a x.kids.length x.cap)) :=
        ⟨by have := hxc 0 _ rfl; rwa [Nat.add_zero] at this, hxc 1 _ rfl, hxc 2 _ rfl, hxc 3 _ rfl, hxc 4 _ rfl, hxc 5 _ rfl⟩
      have hpx : (preR x).length ≤ 100000 ∧ (preL (ls.take k)).length ≤ 100000 := by
        have h1 := preL_take hko
        rw [← hx] at h1
        have h2 := congrArg (fun l => (preL l).length) (List.take_append_drop (k + 1) ls)
        simp only [preL_app, List.length_append] at h2
        have h3 := HNN.out
        have h4 : (preR x).length = 1 + (preL x.kids).length := by rw [preR_eq, List.length_cons, Nat.add_comm]
        omega
      have hst := setsL_take hko
      rw [← hx] at hst
      have HST := Lib.hid hst
      have hsl := setsL_len (ls.take k)
      have hsx := setsL_len [x]
      rw [show preL [x] = preR x by simp [preL]] at hsx
      have HLE : Hid ((setsL (ls.take k)).length + (setsL [x]).length ≤ 200000) := by show _ ≤ _; omega
      have HRT := Lib.hid (rReRight_any x w wr hxk HB.out.1)
      have HSE : Hid (∀ W, Below w.heap.size w W → Calls Try.prog 30 #[.agg (ryCells x).toArray] W fun e w2 => ∃ v2, e = .returned v2 ∧ w2.ownsRow W.heap.size 28 4 v2 (setsL [x]).length (setCells (setsL [x])) ∧ Below W.heap.size W w2) := fun W hW => rSets_any x w W hxk hpx.1 hW
      have HTK : Hid (rightR x = true → ∀ t ∈ ls.take (k + 1), rightR t = true) := fun hr t ht => by
        rw [List.take_succ_eq_append_getElem hko] at ht
        rcases List.mem_append.1 ht with ht | ht
        · exact HA.out t ht
        · obtain rfl := List.mem_singleton.1 ht
          rw [← hx]; exact hr
      have HNO : Hid (rightR x = false → ls.all rightR = false) := fun hr => by
        rw [List.all_eq_false]
        exact ⟨x, by rw [hx]; exact List.getElem_mem _, by rw [hr]; decide⟩
      obtain ⟨R, hR⟩ : ∃ R, R = rightR x := ⟨_, rfl⟩
      rw [← hR] at HRT HTK HNO
      unfold ryCells at HRT HSE
      obtain ⟨xl, hxl⟩ : ∃ xl, xl = x.kids.length := ⟨_, rfl⟩
      rw [← hxl] at a5 HRT HSE HXC
      clear hx hxc hxk hxok hbl hcw hxl hpx hR hst hsl hsx
      cases R with
      | false =>
        have HN5 := Lib.hid (HNO.out (by simp))
        go_wp2_with (go_at_call 29; refine HRT.out.mono ?_; rintro e w5 ⟨rfl, hb5⟩; have HB5 : Hid (Below w.heap.size w w5 ∧ Blk w5 w.heap.size 25 zs) := ⟨low0 HB.out.1 hb5 (Nat.le_refl _), keep0 HB.out.2 hb5⟩; have hst0 := storeCl_run hzn hzn HZO.out HB5.out.2; have HL6 : Hid (Below w.heap.size w (w5.setRow w.heap.size zs) ∧ Blk (w5.setRow w.heap.size zs) w.heap.size 25 zs) := ⟨below_row HB5.out.1 (Nat.le_refl _) _, HB5.out.2.setRow _⟩; clear hb5)
        refine bodyPost_ret (results_cell_tmp rfl _ _ w.heap.size _ _ _ _ rfl HL6.out.2 Try.underlying25 rfl (by rw [hzn]; kernel_rfl)) rfl ?_
        refine ⟨?_, HL6.out.1⟩
        unfold ofV
        rw [if_neg (by rw [HN5.out]; decide), ← HZ.out]
        rfl
      | true =>
        have HT5 := Lib.hid (HTK.out (by simp))
        go_wp2_with (first
          | (go_at_call 29; refine HRT.out.mono ?_; rintro e w5 ⟨rfl, hb5⟩; have HB5 : Hid (Below w.heap.size w w5 ∧ Blk w5 w.heap.size 25 zs) := ⟨low0 HB.out.1 hb5 (Nat.le_refl _), keep0 HB.out.2 hb5⟩; have HO5 := Lib.hid (ownsRow_kept HO.out hb5); have c0 := HCW.out w5 HB5.out.1 _ _ HXC.out.1; have c1 := HCW.out w5 HB5.out.1 _ _ HXC.out.2.1; have c2 := HCW.out w5 HB5.out.1 _ _ HXC.out.2.2.1; have c3 := HCW.out w5 HB5.out.1 _ _ HXC.out.2.2.2.1; have c4 := HCW.out w5 HB5.out.1 _ _ HXC.out.2.2.2.2.1; have c5 := HCW.out w5 HB5.out.1 _ _ HXC.out.2.2.2.2.2; clear hb5)
          | (go_at_call 30; refine (HSE.out _ HB5.out.1).mono ?_; rintro e w6 ⟨v6, rfl, ho6, hb6⟩; have HO6 := Lib.hid ho6; have HOO := Lib.hid (ownsRow_kept HO5.out hb6); have HB6 : Hid (Below w.heap.size w w6 ∧ Blk w6 w.heap.size 25 zs) := ⟨low0 HB5.out.1 hb6 (Nat.le_refl _), keep0 HB5.out.2 hb6⟩; clear ho6 hb6)
          | (at_builtin; refine wpList_app_sets rfl _ _ rfl w.heap.size _ o v6 (setsL (ls.take k)) (setsL [x]) rfl HOO.out rfl HO6.out HLE.out (Nat.le_of_lt HB6.out.2.lt) ?_; intro v7 w7 hown7 hg7; have HO7 := Lib.hid hown7; have HB7 : Hid (Below w.heap.size w w7 ∧ Blk w7 w.heap.size 25 zs) := ⟨HB6.out.1.grown hg7 (Nat.le_of_lt HB6.out.2.lt) (fun r hr => (HOO.out.lt r hr).1), HB6.out.2.kept hg7 (blk_apart HOO.out HB6.out.2 (by decide))⟩; clear hown7 hg7))
        go_roundw
        case rel =>
          refine ⟨k + 1, by omega, by go_num, HT5, ?_, HB7⟩
          rw [HST.out]
          exact HO7.out
        case measure => simp [intOf]; omega
    · obtain rfl : k = q := by omega
      have hall : ls.all rightR = true := by
        rw [List.all_eq_true]
        intro t ht
        exact HA.out t (by rw [HQ.out, List.take_length]; exact ht)
      have HOF : Hid (ofV ls = .tuple #[.agg (clV (setsL ls)), .int .i64 0]) := by show _ = _; unfold ofV; rw [if_pos hall]
      have ho := HO.out
      rw [HQ.out, List.take_length] at ho
      have hsl := setsL_len ls
      have hok := sets_ok HR.out
      obtain ⟨a6, c6, rfl, hrow⟩ := own_slice ho (by rw [setCells_len]; have := HNN.out; unfold maxLen; omega)
      generalize setsL ls = U at *
      have HAP : Hid (∀ W, Below wr.heap.size wr W → ∀ (x y : Nat), x < 256 → y < 256 → Calls Try.prog 31 #[.slice a6 U.length c6, .int .i64 (x : Int), .int .i64 (y : Int)] W fun e w' => e = .returned (.bool (!agB x y U)) ∧ Below W.heap.size W w') := fun W hW x y hx hy => apart_any a6 c6 U x y hx hy W hok (hrow.below hW)
      obtain ⟨nU, hnU⟩ : ∃ nU, nU = U.length := ⟨_, rfl⟩
      rw [← hnU] at HAP ⊢
      obtain ⟨L, hL⟩ : ∃ L, L = clL U := ⟨_, rfl⟩
      have hcp : CP U L := by rw [hL]; exact clL_cp U
      have HCP := Lib.hid hcp
      have HCV : Hid (clV U = (clCells L (manyOf L : Int)).toArray) := by show _ = _; rw [hL]; rfl
      have HB1 := Lib.hid HB.out
      have HST1 : Hid (Below wr.heap.size wr (wr.alloc (.cells zs 25)) ∧ Blk (wr.alloc (.cells zs 25)) wr.heap.size 25 (clCells (padB L 0) 0).toArray) := ⟨(Below.refl _ _).alloc (Nat.le_refl _) _, by rw [padB_zero, ← HZ.out]; exact Blk.new _ _ _⟩
      clear hall ho hsl hok hrow hnU hL hcp HA HO HB HR HQ HNN hq2
      generalize wr = w1 at *
      go_wp2
      go_loopw [7, 8] (fun f i wr => ∃ (b : Nat) (F : List Nat), b ≤ 256 ∧ i = .int .i64 b ∧ Hid (FirstAt L b F) ∧ Hid (wr.ownsRow w1.heap.size 3 1 f F.length (F.map natV)) ∧ Hid (Below w1.heap.size w1 wr ∧ Blk wr w1.heap.size 25 (clCells (padB L b) 0).toArray)) (fun _ i _ => 256 - (intOf i).toNat)
      case atStart => exact ⟨0, [], Nat.zero_le _, rfl, FirstAt.start L, World.ownsRow_nil _ _ _ _, HST1.out⟩
      case round =>
        obtain ⟨b, F, hb, rfl, HF, HOW, HBC⟩ := hrel
        obtain ⟨f, hf⟩ : ∃ f, u7 = f := ⟨_, rfl⟩
        rw [hf] at HOW ⊢
        clear hf
        have hfew := HF.out.few
        obtain ⟨af, cf, rfl, hrf⟩ := own_slice HOW.out (by rw [List.length_map]; unfold maxLen; omega)
        have HRF := Lib.hid hrf
        obtain ⟨nF, hnF⟩ : ∃ nF, nF = F.length := ⟨_, rfl⟩
        have HNF := Lib.hid hnF
        rw [← hnF] at hfew ⊢
        clear hrf hnF
        by_cases hlt : b < 256
        · have hlt' : (b : Int) < 256 := by omega
          have h0' : (0 : Int) ≤ b := by omega
          obtain ⟨kc, hkc⟩ : ∃ kc, kc = (L.getD b 0).toNat := ⟨_, rfl⟩
          have HKC := Lib.hid hkc
          have hle : kc ≤ nF := by rw [hkc, HNF.out]; exact HF.out.le HCP.out hlt
          have hk256 : kc < 256 := by omega
          have HAPF : Hid (∀ (c : Nat) (hc : c < F.length) W, Below wr.heap.size wr W → Calls Try.prog 31 #[.slice a6 nU c6, .int .i64 (F[c] : Int), .int .i64 (b : Int)] W fun e w' => e = .returned (.bool (!decide (c = kc))) ∧ Below W.heap.size W w') := fun c hc W hW => by
            have h1 := HAP.out W (HBC.out.1.trans (hW.mono HBC.out.1.size)) F[c] b (HF.out.at_ c hc).1 hlt
            rw [HF.out.apart HCP.out hlt c hc, ← HKC.out] at h1
            exact h1
          clear hkc
          go_upto_block 4 with fail
          go_cut [9] (fun v wx => v = .int .i64 (kc : Int) ∧ Below wr.heap.size wr wx)
          case first =>
            generalize wr = wb at *
            go_wp2
            go_loopw [9] (fun v w3 => ∃ c : Nat, v = .int .i64 c ∧ c ≤ kc ∧ Below wb.heap.size wb w3) (fun v _ => kc + 1 - (intOf v).toNat)
            case atStart => exact ⟨0, rfl, Nat.zero_le _, Below.refl _ _⟩
            case round =>
              obtain ⟨c, rfl, hck, hb3⟩ := hrel
              have HB3 := Lib.hid hb3
              by_cases hcf : c < nF
              · have hcf' : (c : Int) < nF := by omega
                have h0c : (0 : Int) ≤ c := by omega
                have hcF : c < F.length := by rw [← HNF.out]; exact hcf
                obtain ⟨g, off, hag, hcell⟩ := (HRF.out.below hb3).at_ (k := c) (by rw [List.length_map]; exact hcF)
                rw [List.getElem_map] at hcell
                have hcell : wr.cell? ⟨g, off + c, none⟩ = some (.int .i64 ((F[c]'hcF : Nat) : Int)) := hcell
                have HCA := Lib.hid (HAPF.out c hcF wr hb3)
                subst hag
                generalize F[c]'hcF = fc at *
                clear hb3 hcF
                by_cases hck2 : c = kc
                · have hd : (!decide (c = kc)) = false := by rw [hck2]; simp
                  rw [hd] at HCA
                  subst hck2
                  clear hd
                  go_wp2_with (go_at_call 31; refine HCA.out.mono ?_; rintro e w5 ⟨rfl, hb5⟩; have HB5 := Lib.hid (low_trans HB3.out hb5); clear hb5)
                  go_meet
                  exact ⟨rfl, HB5.out⟩
                · have hd : (!decide (c = kc)) = true := by rw [decide_eq_false hck2]; rfl
                  rw [hd] at HCA
                  clear hd
                  go_wp2_with (go_at_call 31; refine HCA.out.mono ?_; rintro e w5 ⟨rfl, hb5⟩; have HB5 := Lib.hid (low_trans HB3.out hb5); clear hb5)
                  go_roundw
                  case rel => exact ⟨c + 1, by go_num, by omega, HB5.out⟩
                  case measure => simp [intOf]; omega
              · have hcn : c = kc := by omega
                subst hcn
                have hcf' : ¬ (c : Int) < nF := by omega
                clear hb3
                go_wp2
                go_meet
                exact ⟨rfl, HB3.out⟩
          case rest =>
            obtain ⟨rfl, hbc⟩ := hcut
            have HFA : Hid (wc.ownsRow w1.heap.size 3 1 (.slice af nF cf) F.length (F.map natV)) := by
              show World.ownsRow _ _ _ _ _ _ _
              have h := ownsRow_kept HOW.out hbc
              rw [show Value.slice af F.length cf = Value.slice af nF cf by rw [HNF.out]] at h
              exact h
            have hBW := HBC.out.1.size
            have HC2 : Hid (Below w1.heap.size w1 wc ∧ Blk wc w1.heap.size 25 (clCells (padB L b) 0).toArray) := ⟨HBC.out.1.trans (hbc.mono hBW), keep0 HBC.out.2 hbc⟩
            have HSET : Hid (((clCells (padB L b) 0).toArray).setIfInBounds b (.int .u8 (kc : Int)) = (clCells (padB L (b + 1)) 0).toArray) := by
              show _ = _
              rw [padB_set L b HCP.out.len hlt, ← clCells_set _ _ _ _ (by rw [padB_len L b HCP.out.len (by omega)]; exact hlt), HKC.out]
              rfl
            have HOC : Hid (∀ W, Blk W w1.heap.size 25 (clCells (padB L b) 0).toArray → (∃ v, W.cell? ⟨w1.heap.size, b, none⟩ = some v) ∧ W.frozen? ⟨w1.heap.size, b, none⟩ = false ∧ Blk (W.setCell ⟨w1.heap.size, b, none⟩ (.int .u8 (kc : Int))) w1.heap.size 25 (clCells (padB L (b + 1)) 0).toArray) := fun W hW => by
              refine ⟨?_, hW.frozen b, by rw [← HSET.out]; exact hW.set_ b _⟩
              rw [hW.cell, List.getElem?_toArray, clCells_at _ _ b (by rw [padB_len L b HCP.out.len (by omega)]; exact hlt)]
              exact ⟨_, rfl⟩
            have hkw : (kc : Int) % 256 = kc := by omega
            have HNEW : Hid (kc = nF → FirstAt L (b + 1) (F ++ [b])) := fun h => HF.out.new HCP.out hlt (by rw [← HKC.out, h, HNF.out])
            have HOLD : Hid (kc < nF → FirstAt L (b + 1) F) := fun h => HF.out.old HCP.out hlt (by rw [← HKC.out, ← HNF.out]; exact h)
            clear hbc HRF HOW HBC HAPF
            by_cases hkn : kc = nF
            · have hkn' : ((kc : Int) == (nF : Int)) = true := by rw [beq_iff_eq]; omega
              have HFN := Lib.hid (HNEW.out hkn)
              have hFl : F.length ≤ 1000000 := by rw [← HNF.out]; omega
              have HBL : Hid (w1.heap.size ≤ wc.heap.size) := HC2.out.1.size
              clear HOLD HNEW hkn
              go_upto_region 18 with (at_builtin; refine wpList_app_nat rfl _ _ rfl w1.heap.size (.slice af nF cf) F b rfl (HFA.out.alloc _) wc.heap.size rfl (Blk.new _ _ _) hFl (by have := HBL.out; rw [World.size_alloc]; omega) ?_; intro v7 w7 hown7 hg7)
              have HO7 := Lib.hid hown7
              have hb7 : Below w1.heap.size w1 w7 := (HC2.out.1.alloc HBL.out _).grown hg7 (by have := HBL.out; rw [World.size_alloc]; omega) (fun r hr => (HFA.out.lt r hr).1)
              have hk7 : Blk w7 w1.heap.size 25 (clCells (padB L b) 0).toArray := (HC2.out.2.alloc _).kept hg7 (blk_apart HFA.out HC2.out.2 (by decide))
              obtain ⟨⟨ov, hov⟩, hof, hbs⟩ := HOC.out w7 hk7
              have HE : Hid (Below w1.heap.size w1 (w7.setCell ⟨w1.heap.size, b, none⟩ (.int .u8 (kc : Int))) ∧ Blk (w7.setCell ⟨w1.heap.size, b, none⟩ (.int .u8 (kc : Int))) w1.heap.size 25 (clCells (padB L (b + 1)) 0).toArray ∧ (w7.setCell ⟨w1.heap.size, b, none⟩ (.int .u8 (kc : Int))).ownsRow w1.heap.size 3 1 v7 (F ++ [b]).length ((F ++ [b]).map natV)) :=
                ⟨hb7.setCell (p := ⟨w1.heap.size, b, none⟩) (Nat.le_refl _) _, hbs, own_set hown7 hk7 (by decide) _ _⟩
              clear hown7 hg7 hb7 hk7 hbs HFA HC2 HOC
              go_wp2
              go_roundw
              case rel => exact ⟨b + 1, F ++ [b], by omega, by go_num, HFN, HE.out.2.2, HE.out.1, HE.out.2.1⟩
              case measure => simp [intOf]; omega
            · have hkn' : ((kc : Int) == (nF : Int)) = false := by rw [beq_eq_false_iff_ne]; omega
              have HFN := Lib.hid (HOLD.out (by omega))
              obtain ⟨⟨ov, hov⟩, hof, hbs⟩ := HOC.out wc HC2.out.2
              have HE : Hid (Below w1.heap.size w1 (wc.setCell ⟨w1.heap.size, b, none⟩ (.int .u8 (kc : Int))) ∧ Blk (wc.setCell ⟨w1.heap.size, b, none⟩ (.int .u8 (kc : Int))) w1.heap.size 25 (clCells (padB L (b + 1)) 0).toArray ∧ (wc.setCell ⟨w1.heap.size, b, none⟩ (.int .u8 (kc : Int))).ownsRow w1.heap.size 3 1 (.slice af nF cf) F.length (F.map natV)) :=
                ⟨HC2.out.1.setCell (p := ⟨w1.heap.size, b, none⟩) (Nat.le_refl _) _, hbs, own_set HFA.out HC2.out.2 (by decide) _ _⟩
              clear hbs HFA HC2 HOC HOLD HNEW hkn
              go_wp2
              go_roundw
              case rel => exact ⟨b + 1, F, by omega, by go_num, HFN, HE.out.2.2, HE.out.1, HE.out.2.1⟩
              case measure => simp [intOf]; omega
        · obtain rfl : b = 256 := by omega
          have hmany : nF = manyOf L := by rw [HNF.out]; exact HF.out.end_ HCP.out
          have hb1 := HBC.out.2
          have h256 : (clCells (padB L 256) 0).toArray[256]? = some (.int .i64 0) := by rw [List.getElem?_toArray]; exact clCells_many _ _ (padB_len L 256 HCP.out.len (Nat.le_refl _))
          have hc256 : wr.cell? ⟨w1.heap.size, 256, none⟩ = some (.int .i64 0) := by rw [hb1.cell]; exact h256
          have hf256 := hb1.frozen 256
          have hset := hb1.set_ 256 (.int .i64 (nF : Int))
          rw [show ((clCells (padB L 256) 0).toArray).setIfInBounds 256 (.int .i64 (nF : Int)) = clV U by
            rw [HCV.out, ← hmany, padB_end L HCP.out.len]
            exact clCells_many_set L 0 (nF : Int) HCP.out.len] at hset
          have hld : (LoadCl (.pointer (some ⟨w1.heap.size, 0, none⟩))).run Try.prog (wr.setCell ⟨w1.heap.size, 256, none⟩ (.int .i64 (nF : Int))) = .ok (.agg (clV U)) (wr.setCell ⟨w1.heap.size, 256, none⟩ (.int .i64 (nF : Int))) := loadCl_run (clL_cp U).len hset
          have hlow : Below w1.heap.size w1 (wr.setCell ⟨w1.heap.size, 256, none⟩ (.int .i64 (nF : Int))) := HBC.out.1.setCell (p := ⟨w1.heap.size, 256, none⟩) (Nat.le_refl _) _
          have hres := keep0 HB1.out.2 hlow
          have hst := storeCl_run hzn (clV_size U) (clV_one U) hres
          have HL6 : Hid (Below w.heap.size w ((wr.setCell ⟨w1.heap.size, 256, none⟩ (.int .i64 (nF : Int))).setRow w.heap.size (clV U)) ∧ Blk ((wr.setCell ⟨w1.heap.size, 256, none⟩ (.int .i64 (nF : Int))).setRow w.heap.size (clV U)) w.heap.size 25 (clV U)) := ⟨below_row (low_trans HB1.out.1 hlow) (Nat.le_refl _) _, hres.setRow _⟩
          have hvl := clV_size U
          clear hb1 h256 hset hlow hres hmany HF HOW HBC HRF
          go_wp2
          refine bodyPost_ret (results_cell_tmp rfl _ _ w.heap.size _ _ _ _ rfl HL6.out.2 Try.underlying25 rfl (by rw [hvl]; kernel_rfl)) rfl ?_
          exact ⟨by rw [HOF.out]; rfl, HL6.out.1⟩
end Go.Proofs.Ytlaccbkhlkomhaa
