/-
  The contract of frankinglaw06.ClassesTells. Conditions: the trees lie in memory; any classes, any number, any set.
-/
import Derived.Test.YtlaccbkhlkomhaaCtF
import Derived.Great.BuildSlice
namespace Go.Proofs.Ytlaccbkhlkomhaa
open Go.RowKit

attribute [local go_sem ↓] loadCl_eq storeCl_eq neOp_C
set_option maxRecDepth 100000 in
set_option maxHeartbeats 4000000 in
theorem tells_any (a : Option Addr) (c : Nat) (ls : List Ry) (o : List UInt8) (m cl : Int) (s : St) (ho : o.length = 256) (hs : s.ok) (w : World) (h : RyIn w (· < w.heap.size) a c ls) :
    Calls Try.prog 3 #[.slice a ls.length c, .agg (clCells o m).toArray, .int .i64 cl, .agg #[.int .u64 (s.s0 : Int), .int .u64 (s.s1 : Int), .int .u64 (s.s2 : Int), .int .u64 (s.s3 : Int)]] w fun e w' => e = .returned (.bool true) ∧ Below w.heap.size w w' := by
  have HAW := Lib.hid awake_any
  have HH := Lib.hid h
  obtain ⟨cc, hcc⟩ : ∃ cc, cc = (clCells o m).toArray := ⟨_, rfl⟩
  have HCC := Lib.hid hcc
  have hccn : cc.size = 257 := by rw [hcc]; simp [clCells_len _ _ ho]
  rw [← hcc]
  clear hcc
  obtain ⟨zs, hzs⟩ : ∃ zs : Array Value, zs = (clCells cl0 0).toArray := ⟨_, rfl⟩
  have hz : ∀ W, (zeroValue 25).run Try.prog W = .ok (.agg zs) W := fun W => by rw [hzs]; kernel_rfl
  have hzn : zs.size = 257 := by rw [hzs]; simp [clCells_len _ _ cl0_len]
  obtain ⟨cv, ev, o2, m2, hcv, ho2, hm2, hof⟩ : ∃ (cv : Array Value) (ev : Int) (o2 : List UInt8) (m2 : Int), cv = (clCells o2 m2).toArray ∧ o2.length = 256 ∧ (Lit.int .i64 m2).wf = true ∧ ofV ls = .tuple #[.agg cv, .int .i64 ev] := by
    by_cases hr : ls.all rightR = true
    · exact ⟨_, 0, clL (setsL ls), _, rfl, (clL_cp _).len, many_wf _, by unfold ofV; rw [if_pos hr]; rfl⟩
    · exact ⟨_, 2, cl0, 0, rfl, cl0_len, rfl, by unfold ofV; rw [if_neg hr]⟩
  have HCV := Lib.hid hcv
  have hcvn : cv.size = 257 := by rw [hcv]; simp [clCells_len _ _ ho2]
  have HNE : Hid (∀ W, (NeOp 25 (.agg cv) (.agg cv)).run Try.prog W = .ok (.bool false) W) := fun W => by
    rw [hcv]
    exact cls_ne o2 o2 m2 m2 ho2 ho2 hm2 hm2 true (by simp) W
  have HST : Hid (∀ (W : World), (StoreCl (.pointer (some ⟨W.heap.size, 0, none⟩)) (.agg cv)).run Try.prog (W.alloc (.cells zs 25)) = .ok () (W.alloc (.cells cv 25))) := fun W => by
    have h2 := storeCl_run (cs := cv) hzn hcvn (by rw [hcv]; exact cl_one _ _) (Blk.new W 25 zs)
    rwa [World.setRow_alloc_new] at h2
  have HLD : Hid (∀ W B, Blk W B 25 cv → (LoadCl (.pointer (some ⟨B, 0, none⟩))).run Try.prog W = .ok (.agg cv) W) := fun W B hb => by rw [hcv] at hb ⊢; exact loadCl_run ho2 hb
  have HLC : Hid (∀ W B, Blk W B 25 cc → (LoadCl (.pointer (some ⟨B, 0, none⟩))).run Try.prog W = .ok (.agg cc) W) := fun W B hb => by rw [HCC.out] at hb ⊢; exact loadCl_run ho hb
  have HFEW := Lib.hid (fun (W : World) (hW : Below w.heap.size w W) => few6_any a c ls W ((h.under hW).mono (fun b _ hb => Nat.lt_of_lt_of_le hb hW.size)))
  have HOF : Hid (∀ W, Below w.heap.size w W → FewR ls → Calls Try.prog 10 #[.slice a ls.length c] W fun e w' => e = .returned (.tuple #[.agg cv, .int .i64 ev]) ∧ Below W.heap.size W w') := fun W hW hf => by
    have h1 := of_any a c ls W ((h.under hW).mono (fun b _ hb => Nat.lt_of_lt_of_le hb hW.size)) (by have := few_all hf; omega)
    rw [hof] at h1
    exact h1
  have HRO : Hid (∀ W, Below w.heap.size w W → FewR ls → Calls Try.prog 11 #[.slice a ls.length c] W fun e w' => e = .returned (.tuple #[.agg cv, .int .i64 ev]) ∧ Below W.heap.size W w') := fun W hW hf => by
    have h1 := rOf_any a c ls W ((h.under hW).mono (fun b _ hb => Nat.lt_of_lt_of_le hb hW.size)) (by have := few_all hf; omega)
    rw [hof] at h1
    exact h1
  obtain ⟨n, hn⟩ : ∃ n, n = ls.length := ⟨_, rfl⟩
  rw [← hn] at HFEW HOF HRO ⊢
  clear h hn hzs hcv hof hm2
  have HL0 : Hid (Below w.heap.size w ((w.alloc (.cells cc 25)).alloc (.cells #[.int .u64 (s.s0 : Int), .int .u64 (s.s1 : Int), .int .u64 (s.s2 : Int), .int .u64 (s.s3 : Int)] 28))) := ((Below.refl _ _).alloc (Nat.le_refl _) _).alloc (by simp) _
  have HC0 : Hid (Blk ((w.alloc (.cells cc 25)).alloc (.cells #[.int .u64 (s.s0 : Int), .int .u64 (s.s1 : Int), .int .u64 (s.s2 : Int), .int .u64 (s.s3 : Int)] 28)) w.heap.size 25 cc) := (Blk.new _ _ _).alloc _
  have HS0 : Hid (Blk ((w.alloc (.cells cc 25)).alloc (.cells #[.int .u64 (s.s0 : Int), .int .u64 (s.s1 : Int), .int .u64 (s.s2 : Int), .int .u64 (s.s3 : Int)] 28)) (w.heap.size + 1) 28 #[.int .u64 (s.s0 : Int), .int .u64 (s.s1 : Int), .int .u64 (s.s2 : Int), .int .u64 (s.s3 : Int)]) := Blk.new_at _ _ _ _ (by simp)
  go_enter Try.func3, Try.ntmps3
  go_upto_region 1 with (fail)
  generalize (w.alloc (.cells cc 25)).alloc (.cells #[.int .u64 (s.s0 : Int), .int .u64 (s.s1 : Int), .int .u64 (s.s2 : Int), .int .u64 (s.s3 : Int)] 28) = W0 at *
  obtain ⟨B0, hB0⟩ : ∃ B0, B0 = w.heap.size := ⟨_, rfl⟩
  have HB0 := Lib.hid hB0
  rw [← hB0] at HC0 HS0 ⊢
  clear hB0
  go_upto_if 21 with (go_at_call 8; refine (HFEW.out _ HL0.out).mono ?_; rintro e w1 ⟨⟨b, rfl, hfew⟩, hb1⟩)
  have HL1 := Lib.hid (low0 HL0.out hb1 (Nat.le_refl _))
  have HC1 := Lib.hid (keep0 HC0.out hb1)
  have HS1 := Lib.hid (keep0 HS0.out hb1)
  have HFW := Lib.hid hfew
  clear hb1 hfew HFEW HL0 HC0 HS0
  cases b with
  | false =>
    go_wp2_with (go_at_call 9; refine (HAW.out _).mono ?_; rintro e w2 ⟨rfl, hb2⟩; have HL2 := Lib.hid (low0 HL1.out hb2 (Nat.le_refl _)); clear hb2)
    go_ret
    exact ⟨rfl, HL2.out⟩
  | true =>
    have HF6 := Lib.hid (HFW.out (by simp))
    have hst := HST.out
    go_upto_region 4 with (go_at_call 10; refine (HOF.out _ HL1.out HF6.out).mono ?_; rintro e w2 ⟨rfl, hb2⟩)
    have HL2 := Lib.hid ((low0 HL1.out hb2 (Nat.le_refl _)).alloc (low0 HL1.out hb2 (Nat.le_refl _)).size (.cells cv 25))
    have HC2 := Lib.hid ((keep0 HC1.out hb2).alloc (.cells cv 25))
    have HS2 := Lib.hid ((keep0 HS1.out hb2).alloc (.cells cv 25))
    have HA2 := Lib.hid (Blk.new w2 25 cv)
    clear hb2 HL1 HC1 HS1
    generalize w2.alloc (.cells cv 25) = W2 at *
    generalize w2.heap.size = b9 at *
    go_upto_region 5 with (go_at_call 11; refine (HRO.out _ HL2.out HF6.out).mono ?_; rintro e w3 ⟨rfl, hb3⟩)
    have HL3 := Lib.hid ((low0 HL2.out hb3 (Nat.le_refl _)).alloc (low0 HL2.out hb3 (Nat.le_refl _)).size (.cells cv 25))
    have HC3 := Lib.hid ((keep0 HC2.out hb3).alloc (.cells cv 25))
    have HS3 := Lib.hid ((keep0 HS2.out hb3).alloc (.cells cv 25))
    have HA3 := Lib.hid ((keep0 HA2.out hb3).alloc (.cells cv 25))
    have HB3 := Lib.hid (Blk.new w3 25 cv)
    clear hb3 HL2 HC2 HS2 HA2 hst
    generalize w3.alloc (.cells cv 25) = W3 at *
    generalize w3.heap.size = b11 at *
    have l9 := HLD.out _ _ HA3.out
    have l11 := HLD.out _ _ HB3.out
    have l5 := HLC.out _ _ HC3.out
    have hne := HNE.out
    go_upto_region 7 with (fail)
    go_wp2
    obtain ⟨ie, hie, hi1, hi2⟩ : ∃ ie, Try.prog.info? 25 = some ie ∧ ie.size = 257 ∧ ∃ z, ie.zero = some z := by
      have h : (Try.prog.info? 25).map (fun i => (i.size, i.zero.isSome)) = some (257, true) := by kernel_rfl
      cases hc : Try.prog.info? 25 with
      | none => rw [hc] at h; cases h
      | some ie =>
        rw [hc] at h
        simp only [Option.map_some, Option.some.injEq, Prod.mk.injEq] at h
        exact ⟨ie, rfl, h.1, Option.isSome_iff_exists.1 h.2⟩
    obtain ⟨z, hzi⟩ := hi2
    obtain ⟨X, hX1, hX2, hX3⟩ := Great.fill_dense (s := 257) (by decide) [.agg cc, .agg cv] 0 ((Array.range (2 * 257)).map (z.cells[· % z.cells.size]!)) (fun v hv => by
      rcases List.mem_cons.1 hv with rfl | hv
      · exact hccn
      · obtain rfl := List.mem_singleton.1 hv
        exact hcvn) (by simp)
    refine wp_buildSlice (P := Try.prog) 34 25 2 #[(0, .tmp 41), (1, .tmp 42)] rfl X ie z Try.underlying34 hie hzi (by rw [hi1]; decide) (by rw [hi1]; decide) (by rw [hi1]; refine Eq.trans (congrArg _ ?_) hX1; simp [Act.eval]) ?_
    have HX : Hid (∀ j, j < 257 → X[j]? = cc[j]? ∧ X[257 + j]? = cv[j]?) := fun j hj => by
      constructor
      · rw [hX3 j, if_pos (by simp; omega), show j / 257 = 0 by omega, show j % 257 = j by omega]
        rfl
      · rw [hX3 (257 + j), if_pos (by simp; omega), show (257 + j) / 257 = 1 by omega, show (257 + j) % 257 = j by omega]
        rfl
    have HXB := Lib.hid (Blk.new W3 25 X)
    have HL4 := Lib.hid (HL3.out.alloc HL3.out.size (.cells X 25))
    have HS4 := Lib.hid (HS3.out.alloc (.cells X 25))
    clear hX1 hX2 hX3 hie hi1 hzi l5 l9 l11 hne HC3 HA3 HB3 HL3 HS3 HLC
    generalize W3.alloc (.cells X 25) = W4 at *
    generalize W3.heap.size = b43 at *
    go_wp2
    go_loopw [45] (fun i wr => ∃ k : Nat, k ≤ 2 ∧ i = .int .i64 k ∧ Hid (Below W4.heap.size W4 wr)) (fun i _ => 2 - (intOf i).toNat)
    case atStart => exact ⟨0, by omega, rfl, Below.refl _ _⟩
    case round =>
      obtain ⟨k, hk, rfl, HB⟩ := hrel
      by_cases hlt : k < 2
      · have hlt' : (k : Int) < 2 := by omega
        have h0' : (0 : Int) ≤ k := by omega
        have hxb := HXB.out.below HB.out HXB.out.lt
        obtain ⟨xx, oo, mm, hxx, hoo, hld⟩ : ∃ (xx : Array Value) (oo : List UInt8) (mm : Int), xx = (clCells oo mm).toArray ∧ oo.length = 256 ∧ (LoadCl (.pointer (some ⟨b43, k * 257, none⟩))).run Try.prog wr = .ok (.agg xx) wr := by
          have load : ∀ (of : List UInt8) (many : Int) (off : Nat), of.length = 256 → (∀ j v, (clCells of many)[j]? = some v → wr.cell? ⟨b43, off + j, none⟩ = some v) → (LoadCl (.pointer (some ⟨b43, off, none⟩))).run Try.prog wr = .ok (.agg (clCells of many).toArray) wr := fun of many off h1 h2 =>
            run_loadAt_mid wr b43 off 25 (clCells of many) _ h2 Try.underlying25 rfl (by rw [clCells_len _ _ h1]; kernel_rfl)
          by_cases h0 : k = 0
          · refine ⟨cc, o, m, HCC.out, ho, ?_⟩
            have h3 := load o m (k * 257) ho (fun j v hv => by
              have hj : j < 257 := by rw [← clCells_len o m ho]; exact (List.getElem?_eq_some_iff.1 hv).1
              rw [hxb.cell, show k * 257 + j = j by omega, (HX.out j hj).1, HCC.out, List.getElem?_toArray]
              exact hv)
            rw [← HCC.out] at h3
            exact h3
          · refine ⟨cv, o2, m2, HCV.out, ho2, ?_⟩
            have h3 := load o2 m2 (k * 257) ho2 (fun j v hv => by
              have hj : j < 257 := by rw [← clCells_len o2 m2 ho2]; exact (List.getElem?_eq_some_iff.1 hv).1
              rw [hxb.cell, show k * 257 + j = 257 + j by omega, (HX.out j hj).2, HCV.out, List.getElem?_toArray]
              exact hv)
            rw [← HCV.out] at h3
            exact h3
        have hxn : xx.size = 257 := by rw [hxx]; simp [clCells_len _ _ hoo]
        have hst14 : (StoreCl (.pointer (some ⟨wr.heap.size, 0, none⟩)) (.agg xx)).run Try.prog (wr.alloc (.cells zs 25)) = .ok () (wr.alloc (.cells xx 25)) := by
          have h2 := storeCl_run (cs := xx) hzn hxn (by rw [hxx]; exact cl_one _ _) (Blk.new wr 25 zs)
          rwa [World.setRow_alloc_new] at h2
        obtain ⟨f, hb, hfv⟩ : ∃ (f : Int) (hb : Bool), firstV oo mm cl = .tuple #[.int .u8 f, .bool hb] := by
          unfold firstV
          split
          · exact ⟨_, _, rfl⟩
          · exact ⟨_, _, rfl⟩
        have HFC : Hid (∀ W, Calls Try.prog 12 #[.agg xx, .int .i64 cl] W fun e w' => e = .returned (.tuple #[.int .u8 f, .bool hb]) ∧ Below W.heap.size W w') := fun W => by rw [hxx, ← hfv]; exact first_any oo mm cl W hoo
        have HRFC : Hid (∀ W, Calls Try.prog 13 #[.agg xx, .int .i64 cl] W fun e w' => e = .returned (.tuple #[.int .u8 f, .bool hb]) ∧ Below W.heap.size W w') := fun W => by rw [hxx, ← hfv]; exact rFirst_any oo mm cl W hoo
        obtain ⟨R, hR⟩ : ∃ R, R = clRightB oo mm := ⟨_, rfl⟩
        obtain ⟨F, hF⟩ : ∃ F, F = (clRightB oo mm && !partsB oo s) := ⟨_, rfl⟩
        have HRI : Hid (∀ W, Calls Try.prog 14 #[.agg xx] W fun e w' => e = .returned (.bool R) ∧ Below W.heap.size W w') := fun W => by rw [hxx, hR]; exact clRight_any oo mm W hoo
        have HRR : Hid (∀ W, Calls Try.prog 15 #[.agg xx] W fun e w' => e = .returned (.bool R) ∧ Below W.heap.size W w') := fun W => by rw [hxx, hR]; exact rClRight_any oo mm W hoo
        have HFI : Hid (∀ W, Calls Try.prog 16 #[.agg xx, .agg #[.int .u64 (s.s0 : Int), .int .u64 (s.s1 : Int), .int .u64 (s.s2 : Int), .int .u64 (s.s3 : Int)]] W fun e w' => e = .returned (.bool F) ∧ Below W.heap.size W w') := fun W => by rw [hxx, hF]; exact fits_any oo mm s W hoo hs
        have HRF : Hid (∀ W, Calls Try.prog 17 #[.agg xx, .agg #[.int .u64 (s.s0 : Int), .int .u64 (s.s1 : Int), .int .u64 (s.s2 : Int), .int .u64 (s.s3 : Int)]] W fun e w' => e = .returned (.bool F) ∧ Below W.heap.size W w') := fun W => by rw [hxx, hF]; exact rFits_any oo mm s W hoo hs
        have HLX : Hid (∀ W B, Blk W B 25 xx → (LoadCl (.pointer (some ⟨B, 0, none⟩))).run Try.prog W = .ok (.agg xx) W) := fun W B hb => by rw [hxx] at hb ⊢; exact loadCl_run hoo hb
        clear hR hF hfv hxx hxb hxn
        go_upto_region 10 with (fail)
        have HB5 := Lib.hid (HB.out.alloc HB.out.size (.cells xx 25))
        have HX5 := Lib.hid (Blk.new wr 25 xx)
        clear hst14 hld HB
        generalize wr.alloc (.cells xx 25) = W5 at *
        generalize wr.heap.size = b14 at *
        have HSW : Hid (∀ W, Below W5.heap.size W5 W → (fun W => Below W5.heap.size W5 W ∧ (LoadCl (.pointer (some ⟨b14, 0, none⟩))).run Try.prog W = .ok (.agg xx) W ∧ W.cell? ⟨B0 + 1, 0, none⟩ = some (.int .u64 (s.s0 : Int)) ∧ W.cell? ⟨B0 + 1, 1, none⟩ = some (.int .u64 (s.s1 : Int)) ∧ W.cell? ⟨B0 + 1, 2, none⟩ = some (.int .u64 (s.s2 : Int)) ∧ W.cell? ⟨B0 + 1, 3, none⟩ = some (.int .u64 (s.s3 : Int))) W) := fun W hW => by
          have h1 := keep0 HX5.out hW
          have h2 := keep0 HS4.out (HB5.out.trans (hW.mono HB5.out.size))
          exact ⟨hW, HLX.out _ _ h1, by rw [h2.cell]; rfl, by rw [h2.cell]; rfl, by rw [h2.cell]; rfl, by rw [h2.cell]; rfl⟩
        have l14 := HLX.out _ _ HX5.out
        go_upto_region 11 with (go_at_call 12; refine (HFC.out _).mono ?_; rintro e w6 ⟨rfl, hb6⟩)
        have HB6 := Lib.hid hb6
        have l15 := (HSW.out _ hb6).2.1
        clear hb6 l14
        go_upto_region 12 with (go_at_call 13; refine (HRFC.out _).mono ?_; rintro e w7 ⟨rfl, hb7⟩)
        have HB7 := Lib.hid (low_trans HB6.out hb7)
        clear hb7 l15 HFC HRFC HLX
        have hS1 := HSW.out _ HB7.out.drew
        refine wp_region_held_drew (S := (fun W => Below W5.heap.size W5 W ∧ (LoadCl (.pointer (some ⟨b14, 0, none⟩))).run Try.prog W = .ok (.agg xx) W ∧ W.cell? ⟨B0 + 1, 0, none⟩ = some (.int .u64 (s.s0 : Int)) ∧ W.cell? ⟨B0 + 1, 1, none⟩ = some (.int .u64 (s.s1 : Int)) ∧ W.cell? ⟨B0 + 1, 2, none⟩ = some (.int .u64 (s.s2 : Int)) ∧ W.cell? ⟨B0 + 1, 3, none⟩ = some (.int .u64 (s.s3 : Int)))) (by kernel_rfl) hS1 (fun hS => ?_)
        clear hS1
        refine take_val (i := 0) rfl (by kernel_rfl) (by kernel_rfl) (by kernel_rfl) (fun _ _ _ h => h) rfl (fun w hSw => by (try dsimp only at hSw); go_simp; try with_reducible rfl) hS ?_; try simp only [Act.put, List.setIfInBounds_toArray, List.set_cons_zero, List.set_cons_succ]
        refine take_val (i := 2) rfl (by kernel_rfl) (by kernel_rfl) (by kernel_rfl) (fun _ _ _ h => h) rfl (fun w hSw => by (try dsimp only at hSw); go_simp; try with_reducible rfl) hS ?_; try simp only [Act.put, List.setIfInBounds_toArray, List.set_cons_zero, List.set_cons_succ]
        refine take_call (i := 1) rfl (by kernel_rfl) rfl (fun K hK => ?_)
        go_simp; refine (HRI.out _).mono ?_; rintro e w8 ⟨rfl, hb8⟩; go_wp2_with fail
        refine hK.out _ _ (HSW.out _ (low0 hS.1 hb8 (Nat.le_refl _))) (fun hS => ?_); clear hK K; try simp only [Act.put, List.setIfInBounds_toArray, List.set_cons_zero, List.set_cons_succ]
        refine take_call (i := 3) rfl (by kernel_rfl) rfl (fun K hK => ?_)
        go_simp; refine (HRR.out _).mono ?_; rintro e w9 ⟨rfl, hb9⟩; go_wp2_with fail
        refine hK.out _ _ (HSW.out _ (low0 hS.1 hb9 (Nat.le_refl _))) (fun hS => ?_); clear hK K; try simp only [Act.put, List.setIfInBounds_toArray, List.set_cons_zero, List.set_cons_succ]
        refine take_val (i := 4) rfl (by kernel_rfl) (by kernel_rfl) (by kernel_rfl) (fun _ _ _ h => h) rfl (fun w hSw => by (try dsimp only at hSw); go_simp; try with_reducible rfl) hS ?_; try simp only [Act.put, List.setIfInBounds_toArray, List.set_cons_zero, List.set_cons_succ]
        refine take_val (i := 5) rfl (by kernel_rfl) (by kernel_rfl) (by kernel_rfl) (fun _ _ _ h => h) rfl (fun w hSw => by (try dsimp only at hSw); go_simp; try with_reducible rfl) hS ?_; try simp only [Act.put, List.setIfInBounds_toArray, List.set_cons_zero, List.set_cons_succ]
        refine take_val (i := 6) rfl (by kernel_rfl) (by kernel_rfl) (by kernel_rfl) (fun _ _ _ h => h) rfl (fun w hSw => by (try dsimp only at hSw); go_simp; try with_reducible rfl) hS ?_; try simp only [Act.put, List.setIfInBounds_toArray, List.set_cons_zero, List.set_cons_succ]
        refine take_val (i := 7) rfl (by kernel_rfl) (by kernel_rfl) (by kernel_rfl) (fun _ _ _ h => h) rfl (fun w hSw => by (try dsimp only at hSw); go_simp; try with_reducible rfl) hS ?_; try simp only [Act.put, List.setIfInBounds_toArray, List.set_cons_zero, List.set_cons_succ]
        refine take_val (i := 8) rfl (by kernel_rfl) (by kernel_rfl) (by kernel_rfl) (fun _ _ _ h => h) rfl (fun w hSw => by (try dsimp only at hSw); go_simp; try with_reducible rfl) hS ?_; try simp only [Act.put, List.setIfInBounds_toArray, List.set_cons_zero, List.set_cons_succ]
        refine take_val (i := 9) rfl (by kernel_rfl) (by kernel_rfl) (by kernel_rfl) (fun _ _ _ h => h) rfl (fun w hSw => by (try dsimp only at hSw); go_simp; try with_reducible rfl) hS ?_; try simp only [Act.put, List.setIfInBounds_toArray, List.set_cons_zero, List.set_cons_succ]
        refine take_val (i := 10) rfl (by kernel_rfl) (by kernel_rfl) (by kernel_rfl) (fun _ _ _ h => h) rfl (fun w hSw => by (try dsimp only at hSw); go_simp; try with_reducible rfl) hS ?_; try simp only [Act.put, List.setIfInBounds_toArray, List.set_cons_zero, List.set_cons_succ]
        refine take_val (i := 11) rfl (by kernel_rfl) (by kernel_rfl) (by kernel_rfl) (fun _ _ _ h => h) rfl (fun w hSw => by (try dsimp only at hSw); go_simp; try with_reducible rfl) hS ?_; try simp only [Act.put, List.setIfInBounds_toArray, List.set_cons_zero, List.set_cons_succ]
        refine take_val (i := 12) rfl (by kernel_rfl) (by kernel_rfl) (by kernel_rfl) (fun _ _ _ h => h) rfl (fun w hSw => by (try dsimp only at hSw); go_simp; try with_reducible rfl) hS ?_; try simp only [Act.put, List.setIfInBounds_toArray, List.set_cons_zero, List.set_cons_succ]
        refine take_val (i := 13) rfl (by kernel_rfl) (by kernel_rfl) (by kernel_rfl) (fun _ _ _ h => h) rfl (fun w hSw => by (try dsimp only at hSw); go_simp; try with_reducible rfl) hS ?_; try simp only [Act.put, List.setIfInBounds_toArray, List.set_cons_zero, List.set_cons_succ]
        refine take_val (i := 14) rfl (by kernel_rfl) (by kernel_rfl) (by kernel_rfl) (fun _ _ _ h => h) rfl (fun w hSw => by (try dsimp only at hSw); go_simp; try with_reducible rfl) hS ?_; try simp only [Act.put, List.setIfInBounds_toArray, List.set_cons_zero, List.set_cons_succ]
        refine take_val (i := 15) rfl (by kernel_rfl) (by kernel_rfl) (by kernel_rfl) (fun _ _ _ h => h) rfl (fun w hSw => by (try dsimp only at hSw); go_simp; try with_reducible rfl) hS ?_; try simp only [Act.put, List.setIfInBounds_toArray, List.set_cons_zero, List.set_cons_succ]
        refine take_val (i := 16) rfl (by kernel_rfl) (by kernel_rfl) (by kernel_rfl) (fun _ _ _ h => h) rfl (fun w hSw => by (try dsimp only at hSw); go_simp; try with_reducible rfl) hS ?_; try simp only [Act.put, List.setIfInBounds_toArray, List.set_cons_zero, List.set_cons_succ]
        refine take_val (i := 17) rfl (by kernel_rfl) (by kernel_rfl) (by kernel_rfl) (fun _ _ _ h => h) rfl (fun w hSw => by (try dsimp only at hSw); go_simp; try with_reducible rfl) hS ?_; try simp only [Act.put, List.setIfInBounds_toArray, List.set_cons_zero, List.set_cons_succ]
        refine take_val (i := 19) rfl (by kernel_rfl) (by kernel_rfl) (by kernel_rfl) (fun _ _ _ h => h) rfl (fun w hSw => by (try dsimp only at hSw); go_simp; try with_reducible rfl) hS ?_; try simp only [Act.put, List.setIfInBounds_toArray, List.set_cons_zero, List.set_cons_succ]
        refine take_val (i := 20) rfl (by kernel_rfl) (by kernel_rfl) (by kernel_rfl) (fun _ _ _ h => h) rfl (fun w hSw => by (try dsimp only at hSw); go_simp; try with_reducible rfl) hS ?_; try simp only [Act.put, List.setIfInBounds_toArray, List.set_cons_zero, List.set_cons_succ]
        refine take_call (i := 18) rfl (by kernel_rfl) rfl (fun K hK => ?_)
        go_simp; refine (HFI.out _).mono ?_; rintro e w10 ⟨rfl, hb10⟩; go_wp2_with fail
        refine hK.out _ _ (HSW.out _ (low0 hS.1 hb10 (Nat.le_refl _))) (fun hS => ?_); clear hK K; try simp only [Act.put, List.setIfInBounds_toArray, List.set_cons_zero, List.set_cons_succ]
        refine take_call (i := 21) rfl (by kernel_rfl) rfl (fun K hK => ?_)
        go_simp; refine (HRF.out _).mono ?_; rintro e w11 ⟨rfl, hb11⟩; go_wp2_with fail
        refine hK.out _ _ (HSW.out _ (low0 hS.1 hb11 (Nat.le_refl _))) (fun hS => ?_); clear hK K; try simp only [Act.put, List.setIfInBounds_toArray, List.set_cons_zero, List.set_cons_succ]
        refine take_val (i := 22) rfl (by kernel_rfl) (by kernel_rfl) (by kernel_rfl) (fun _ _ _ h => h) rfl (fun w hSw => by (try dsimp only at hSw); go_simp; try with_reducible rfl) hS ?_; try simp only [Act.put, List.setIfInBounds_toArray, List.set_cons_zero, List.set_cons_succ]
        refine take_val (i := 23) rfl (by kernel_rfl) (by kernel_rfl) (by kernel_rfl) (fun _ _ _ h => h) rfl (fun w hSw => by (try dsimp only at hSw); go_simp; try with_reducible rfl) hS ?_; try simp only [Act.put, List.setIfInBounds_toArray, List.set_cons_zero, List.set_cons_succ]
        refine wpAnyH_done (by kernel_rfl) ?_ _
        have HE := Lib.hid hS.1
        clear hS HSW
        go_wp2
        go_roundw
        case rel => exact ⟨k + 1, by omega, by go_num, HB5.out.trans (HE.out.mono HB5.out.size)⟩
        case measure => simp [intOf]; omega
      · obtain rfl : k = 2 := by omega
        go_wp2_with (go_at_call 9; refine (HAW.out _).mono ?_; rintro e w9 ⟨rfl, hb9⟩; have HB9 := Lib.hid (low_trans HB.out hb9); clear hb9)
        go_ret
        exact ⟨rfl, HL4.out.trans (HB9.out.mono HL4.out.size)⟩
end Go.Proofs.Ytlaccbkhlkomhaa
