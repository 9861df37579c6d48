/-
  The contract of frankinglaw06.ClassesTwo. Conditions: a set, a byte.
-/
import Derived.Test.YtlaccbkhlkomhaaTwP
namespace Go.Proofs.Ytlaccbkhlkomhaa
open Go.RowKit

attribute [local go_sem ↓] loadCl_eq storeCl_eq
set_option maxRecDepth 100000 in
set_option maxHeartbeats 8000000 in
theorem two_any (s : St) (many : Nat) (hs : s.ok) (hmany : many < 256) (w : World) :
    Calls Try.prog 7 #[.agg #[.int .u64 (s.s0 : Int), .int .u64 (s.s1 : Int), .int .u64 (s.s2 : Int), .int .u64 (s.s3 : Int)], .int .u8 (many : Int)] w fun e w' => e = .returned (.bool true) ∧ Below w.heap.size w w' := by
  have HAW := Lib.hid awake_any
  have HSOK := Lib.hid hs
  obtain ⟨zs, hzs⟩ : ∃ zs : Array Value, zs = (clCells cl0 0).toArray := ⟨_, rfl⟩
  have hz : ∀ W, (zeroValue 25).run Try.prog W = .ok (.agg zs) W := fun W => by rw [hzs]; kernel_rfl
  have hzn : zs.size = 257 := by rw [hzs]; simp [clCells_len _ _ cl0_len]
  have HST : Hid (∀ (V : List St) (W : World), (StoreCl (.pointer (some ⟨W.heap.size, 0, none⟩)) (.agg (clV V))).run Try.prog (W.alloc (.cells zs 25)) = .ok () (W.alloc (.cells (clV V) 25))) := fun V W => by
    have h2 := storeCl_run (cs := clV V) hzn (clV_size _) (clV_one _) (Blk.new W 25 zs)
    rwa [World.setRow_alloc_new] at h2
  clear hzs hs
  obtain ⟨z, hzz⟩ : ∃ z : Bool, z = ((s.s0 : Int) == 0 && ((s.s1 : Int) == 0 && ((s.s2 : Int) == 0 && (s.s3 : Int) == 0))) := ⟨_, rfl⟩
  have hse : ∀ W, (Op.equalIn 10000 28 (.agg #[.int .u64 (s.s0 : Int), .int .u64 (s.s1 : Int), .int .u64 (s.s2 : Int), .int .u64 (s.s3 : Int)]) (.agg #[.int .u64 0, .int .u64 0, .int .u64 0, .int .u64 0])).run Try.prog W = .ok z W := fun W => by rw [hzz]; exact set_eq _ _ _ _ 0 0 0 0 W
  have hfe : ∀ W, (Op.equalIn 10000 28 (.agg #[.int .u64 (s.s0 : Int), .int .u64 (s.s1 : Int), .int .u64 (s.s2 : Int), .int .u64 (s.s3 : Int)]) (.agg #[.int .u64 18446744073709551615, .int .u64 18446744073709551615, .int .u64 18446744073709551615, .int .u64 18446744073709551615])).run Try.prog W = .ok (fullB s) W := fun W => by
    refine (set_eq _ _ _ _ 18446744073709551615 18446744073709551615 18446744073709551615 18446744073709551615 W).trans ?_
    have e : ∀ x : Nat, ((x : Int) == 18446744073709551615) = (x == 18446744073709551615) := fun x => by rw [Bool.eq_iff_iff, beq_iff_eq, beq_iff_eq]; omega
    unfold fullB
    rw [e, e, e, e]
  have HZ : Hid (z = false → ∃ b, b < 256 ∧ inS s b = true) := fun h => by
    refine set_has HSOK.out (fun h0 => ?_)
    obtain ⟨h0, h1, h2, h3⟩ := h0
    rw [hzz, h0, h1, h2, h3] at h
    cases h
  clear hzz
  have HB0 := Lib.hid (Blk.new w 28 #[.int .u64 (s.s0 : Int), .int .u64 (s.s1 : Int), .int .u64 (s.s2 : Int), .int .u64 (s.s3 : Int)])
  have HL0 := Lib.hid ((Below.refl w.heap.size w).alloc (Nat.le_refl _) (.cells #[.int .u64 (s.s0 : Int), .int .u64 (s.s1 : Int), .int .u64 (s.s2 : Int), .int .u64 (s.s3 : Int)] 28))
  obtain ⟨FU, hFU⟩ : ∃ FU, FU = fullB s := ⟨_, rfl⟩
  have HFU := Lib.hid hFU
  rw [← hFU] at hfe
  clear hFU
  go_enter Try.func7, Try.ntmps7
  go_upto_if 17 with (fail)
  generalize w.alloc (.cells (#[.int .u64 (s.s0 : Int), .int .u64 (s.s1 : Int), .int .u64 (s.s2 : Int), .int .u64 (s.s3 : Int)] : Array Value) 28) = W0 at *
  generalize hb0 : w.heap.size = b0 at HB0 ⊢
  cases z with
  | true =>
    go_wp2_with (go_at_call 9; refine (HAW.out _).mono ?_; rintro e w2 ⟨rfl, hb2⟩; have HL2 := Lib.hid (low0 HL0.out hb2 (Nat.le_refl _)); clear hb2)
    go_ret
    exact ⟨rfl, HL2.out⟩
  | false =>
    have HHAS := Lib.hid (HZ.out rfl)
    have HR1 : Hid (rightR (oneR s) = true) := by obtain ⟨b, hb, hin⟩ := HHAS.out; exact one_some hb hin
    have HM1 : Hid (manyOf (clL [s]) = if FU = true then 1 else 2) := by rw [HFU.out]; exact one_many HSOK.out HHAS.out
    have s0 := HB0.out.cell 0
    have s1 := HB0.out.cell 1
    have s2 := HB0.out.cell 2
    have s3 := HB0.out.cell 3
    simp at s0 s1 s2 s3
    clear HZ
    have HOS : Hid (∀ W, Calls Try.prog 21 #[.agg #[.int .u64 (s.s0 : Int), .int .u64 (s.s1 : Int), .int .u64 (s.s2 : Int), .int .u64 (s.s3 : Int)]] W fun e w' => e = .returned (.agg #[.int .u8 1, .int .u64 (s.s0 : Int), .int .u64 (s.s1 : Int), .int .u64 (s.s2 : Int), .int .u64 (s.s3 : Int), .slice none 0 0]) ∧ Below W.heap.size W w') := fun W => one_any s W
    have HOFL : Hid (∀ (a : Option Addr) (c : Nat) (V : List St) (W : World), (∀ s ∈ V, rightR (oneR s) = true) → V.length ≤ 100000 → RyIn W (· < W.heap.size) a c (V.map oneR) → Calls Try.prog 10 #[.slice a (V.map oneR).length c] W fun e w' => e = .returned (.tuple #[.agg (clV V), .int .i64 0]) ∧ Below W.heap.size W w') := fun a c V W h1 h2 h3 => by
      have h4 := of_any a c (V.map oneR) W h3 (by rw [preL_ones]; exact h2)
      rw [ofV_right (fun t ht => by
        obtain ⟨s, hs, rfl⟩ := List.mem_map.1 ht
        exact h1 s hs), setsL_ones] at h4
      exact h4
    have HOF1 : Hid (∀ W : World, Calls Try.prog 10 #[.slice (some ⟨W.heap.size, 0, none⟩) 1 1] (W.alloc (.cells #[.int .u8 1, .int .u64 (s.s0 : Int), .int .u64 (s.s1 : Int), .int .u64 (s.s2 : Int), .int .u64 (s.s3 : Int), .slice none 0 0] 42)) fun e w' => e = .returned (.tuple #[.agg (clV [s]), .int .i64 0]) ∧ Below (W.alloc (.cells #[.int .u8 1, .int .u64 (s.s0 : Int), .int .u64 (s.s1 : Int), .int .u64 (s.s2 : Int), .int .u64 (s.s3 : Int), .slice none 0 0] 42)).heap.size (W.alloc (.cells #[.int .u8 1, .int .u64 (s.s0 : Int), .int .u64 (s.s1 : Int), .int .u64 (s.s2 : Int), .int .u64 (s.s3 : Int), .slice none 0 0] 42)) w') := fun W => HOFL.out _ 1 [s] _ (fun x hx => by obtain rfl := List.mem_singleton.1 hx; exact HR1.out) (by simp) (oneRs_in (ss := [s]) (Blk.new W 42 _) rfl (by simp) (by simp [maxLen]) (fun x hx => by obtain rfl := List.mem_singleton.1 hx; exact HSOK.out))
    have hst := HST.out [s]
    go_upto_region 4 with (first
      | (go_at_call 21; refine (HOS.out _).mono ?_; rintro e w1 ⟨rfl, hb1⟩; have HL1 := Lib.hid (low_trans HL0.out hb1); have HB1 := Lib.hid (keep0 HB0.out hb1); clear hb1)
      | (go_at_call 10; refine (HOF1.out _).mono ?_; rintro e w2 ⟨rfl, hb2⟩))
    have HL2 := Lib.hid ((low1 HL1.out hb2 (Nat.le_refl _)).alloc (low1 HL1.out hb2 (Nat.le_refl _)).size (.cells (clV [s]) 25))
    have HB5 := Lib.hid (Blk.new w2 25 (clV [s]))
    have HBS := Lib.hid ((keep1 HB1.out hb2).alloc (.cells (clV [s]) 25))
    clear hb2 hst HOF1 HB1 HB0 HL1 s0 s1 s2 s3
    generalize w2.alloc (.cells (clV [s]) 25) = W2 at *
    generalize w2.heap.size = b5 at *
    have s0 := HBS.out.cell 0
    have s1 := HBS.out.cell 1
    have s2 := HBS.out.cell 2
    have s3 := HBS.out.cell 3
    simp at s0 s1 s2 s3
    obtain ⟨wn, hwn⟩ : ∃ wn : Nat, wn = manyOf (clL [s]) := ⟨_, rfl⟩
    have HMANY : Hid ((clV [s])[256]? = some (.int .i64 (wn : Int))) := by show _ = _; rw [hwn]; exact clV_many [s]
    have e5 : W2.cell? ⟨b5, 256, none⟩ = some (.int .i64 (wn : Int)) := by rw [HB5.out.cell, hwn]; exact clV_many [s]
    have hw1 : FU = true → wn = 1 := fun h => by rw [hwn, HM1.out, if_pos h]
    have hw2 : FU = false → wn = 2 := fun h => by rw [hwn, HM1.out, if_neg (by rw [h]; decide)]
    clear hwn HM1
    go_upto_if 28 with (fail)
    go_cut [7] (fun v wx => v = .int .i64 (wn : Int) ∧ W2 = wx)
    case first =>
      cases FU with
      | true =>
        obtain rfl := hw1 rfl
        go_wp2
        go_meet
        exact ⟨rfl, rfl⟩
      | false =>
        obtain rfl := hw2 rfl
        go_wp2
        go_meet
        exact ⟨rfl, rfl⟩
    case rest =>
      obtain ⟨rfl, rfl⟩ := hcut
      clear hw1 hw2 hfe hse s0 s1 s2 s3 HFU
      go_wp2
      go_loopw [8, 31] (fun o i wr => ∃ k : Nat, k ≤ many ∧ i = .int .i64 k ∧ Hid (wr.ownsRow W2.heap.size 42 6 o ((bytesS k).map oneR).length (((bytesS k).map oneR).flatMap ryCells)) ∧ Hid (Below W2.heap.size W2 wr)) (fun _ i _ => many - (intOf i).toNat)
      case atStart => exact ⟨0, Nat.zero_le _, rfl, World.ownsRow_nil _ _ _ _, Below.refl _ _⟩
      case round =>
        obtain ⟨k, hk, rfl, HO, HB⟩ := hrel
        obtain ⟨o, ho⟩ : ∃ o, u8 = o := ⟨_, rfl⟩
        rw [ho] at HO ⊢
        clear ho
        by_cases hlt : k < many
        · have hlt' : (k : Int) < many := by omega
          have h0' : (0 : Int) ≤ k := by omega
          have hk256 : (k : Int) < 256 := by omega
          have hkw : (k : Int) % 256 = k := by omega
          have hu8 : (UInt8.ofNat k).toNat = k := by rw [UInt8.toNat_ofNat']; exact Nat.mod_eq_of_lt (by omega)
          have hcv : ∀ W : World, (convert 51 9 (.slice (some ⟨W.heap.size, 0, none⟩) 1 1)).run Try.prog (W.alloc (.cells #[.int .u8 (k : Int)] 5)) = .ok (.string (bs [UInt8.ofNat k])) (W.alloc (.cells #[.int .u8 (k : Int)] 5)) := fun W => by
            refine conv_any _ _ [UInt8.ofNat k] 1 ⟨by simp [maxLen], fun _ => ⟨W.heap.size, 0, rfl, by simp, fun j hj => ?_⟩⟩
            obtain rfl : j = 0 := by simpa using hj
            rw [(Blk.new W 5 #[.int .u8 (k : Int)]).cell]
            simp [byteV, hu8]
          have HSE : Hid (∀ W, Calls Try.prog 22 #[.string (bs [UInt8.ofNat k])] W fun e w' => e = .returned (.agg #[.int .u64 ((byteS k).s0 : Int), .int .u64 ((byteS k).s1 : Int), .int .u64 ((byteS k).s2 : Int), .int .u64 ((byteS k).s3 : Int)]) ∧ Below W.heap.size W w') := fun W => set_any [UInt8.ofNat k] (by simp) W
          have HON : Hid (∀ W, Calls Try.prog 21 #[.agg #[.int .u64 ((byteS k).s0 : Int), .int .u64 ((byteS k).s1 : Int), .int .u64 ((byteS k).s2 : Int), .int .u64 ((byteS k).s3 : Int)]] W fun e w' => e = .returned (.agg #[.int .u8 1, .int .u64 ((byteS k).s0 : Int), .int .u64 ((byteS k).s1 : Int), .int .u64 ((byteS k).s2 : Int), .int .u64 ((byteS k).s3 : Int), .slice none 0 0]) ∧ Below W.heap.size W w') := fun W => one_any (byteS k) W
          have HEQ : Hid ((bytesS (k + 1)).map oneR = (bytesS k).map oneR ++ [oneR (byteS k)]) := by show _ = _; rw [bytesS_succ, List.map_append]; rfl
          have hll : ((bytesS k).map oneR).length ≤ 100000 := by rw [List.length_map, bytesS_len]; omega
          generalize (bytesS k).map oneR = LL at *
          generalize bs [UInt8.ofNat k] = SB at *
          clear hu8
          go_wp2_with (first
            | (go_at_call 22; refine (HSE.out _).mono ?_; rintro e w5 ⟨rfl, hb5⟩; have HO5 := Lib.hid (ownsRow_kept (HO.out.alloc _) hb5); have HB6 := Lib.hid (low1 HB.out hb5 (Nat.le_refl _)); clear hb5)
            | (go_at_call 21; refine (HON.out _).mono ?_; rintro e w6 ⟨rfl, hb6⟩; have HO8 := Lib.hid (ownsRow_kept HO5.out hb6); have HB8 := Lib.hid (low0 HB6.out hb6 (Nat.le_refl _)); clear hb6)
            | (at_builtin; refine wpList_app_re rfl _ _ rfl W2.heap.size o LL (oneR (byteS k)) rfl (HO8.out.alloc _) w6.heap.size _ rfl rfl (Blk.new _ _ _) hll (by have := HB8.out.size; rw [World.size_alloc]; omega) ?_; intro v' w7 hown7 hg7; have HO9 := Lib.hid hown7; have HG9 := Lib.hid hg7; clear hown7 hg7))
          go_roundw
          case rel =>
            refine ⟨k + 1, by omega, by go_num, by rw [HEQ.out]; exact HO9.out, ?_⟩
            exact HB8.out.trans (((Below.refl W2.heap.size w6).alloc HB8.out.size _).grown HG9.out (by have := HB8.out.size; rw [World.size_alloc]; omega) (fun r hr => (HO8.out.lt r hr).1))
          case measure => simp [intOf]; omega
        · obtain rfl : k = many := by omega
          obtain ⟨a8, c8, rfl, hli8⟩ := ones_in HO.out (fun s hs => by obtain ⟨b, _, rfl⟩ := List.mem_map.1 hs; exact byteS_ok b)
          have hN8 : ((bytesS k).map oneR).length = k := by rw [List.length_map, bytesS_len]
          obtain ⟨L8, hL8⟩ : ∃ L8, L8 = (bytesS k).map oneR := ⟨_, rfl⟩
          have HOK2 : Hid (∀ s ∈ bytesS k, s.ok) := fun s hs => by obtain ⟨b, _, rfl⟩ := List.mem_map.1 hs; exact byteS_ok b
          have HRR2 : Hid (∀ s ∈ bytesS k, rightR (oneR s) = true) := fun s hs => by
            obtain ⟨b, hb, rfl⟩ := List.mem_map.1 hs
            have := List.mem_range.1 hb
            exact one_some (b := b) (by omega) (by rw [byteS_in b b (by omega) (by omega)]; exact decide_eq_true rfl)
          have HOF2 := Lib.hid (HOFL.out a8 c8 (bytesS k) wr HRR2.out (by rw [bytesS_len]; omega) hli8)
          have hO8 := HO.out
          rw [← hL8] at hO8
          have hl8 : L8.length = k := by rw [hL8, hN8]
          have HO8 : Hid (wr.ownsRow W2.heap.size 42 6 (.slice a8 k c8) L8.length (L8.flatMap ryCells)) := by
            show World.ownsRow _ _ _ _ _ _ _
            have h := hO8
            rw [show Value.slice a8 L8.length c8 = Value.slice a8 k c8 by rw [hl8]] at h
            exact h
          have HL8 := Lib.hid hL8
          have HLN := Lib.hid hl8
          rw [hN8] at HOF2 ⊢
          clear hO8 hli8 hL8 hl8 hN8 HO
          have HB5' := Lib.hid (keep0 HB5.out HB.out)
          have HBS' := Lib.hid (keep0 HBS.out HB.out)
          have HB0LT : Hid (b0 < W2.heap.size) := HBS.out.lt
          clear HB5 HBS e5
          have hst := HST.out (bytesS k)
          go_upto_region 14 with (go_at_call 10 ; refine HOF2.out.mono ?_; rintro e w4 ⟨rfl, hb4⟩)
          have hs4 : wr.heap.size ≤ w4.heap.size := hb4.size
          have HB4 : Hid (Below wr.heap.size wr (w4.alloc (.cells (clV (bytesS k)) 25))) := hb4.alloc hs4 _
          have HB10 := Lib.hid (Blk.new w4 25 (clV (bytesS k)))
          have HO10 : Hid ((w4.alloc (.cells (clV (bytesS k)) 25)).ownsRow W2.heap.size 42 6 (.slice a8 k c8) L8.length (L8.flatMap ryCells)) := (ownsRow_kept HO8.out hb4).alloc _
          clear hb4 hst HOF2 hs4 HO8
          generalize w4.alloc (.cells (clV (bytesS k)) 25) = W4 at *
          generalize w4.heap.size = b10 at *
          have HB5 := Lib.hid (keep0 HB5'.out HB4.out)
          have HBS := Lib.hid (keep0 HBS'.out HB4.out)
          have HW4 := Lib.hid (HB.out.trans (HB4.out.mono HB.out.size))
          clear HB5' HBS' HB HB4
          have e10 : W4.cell? ⟨b10, 256, none⟩ = some (.int .i64 ((k : Int) + 1)) := by rw [HB10.out.cell, clV_many, bytes_many k hmany]; rfl
          have e5 : W4.cell? ⟨b5, 256, none⟩ = some (.int .i64 (wn : Int)) := by rw [HB5.out.cell]; exact HMANY.out
          go_wp2
          go_loopw [69] (fun i w5 => ∃ j : Nat, j ≤ 256 ∧ i = .int .i64 j ∧ Hid (W4 = w5)) (fun i _ => 256 - (intOf i).toNat)
          case atStart => exact ⟨0, Nat.zero_le _, rfl, rfl⟩
          case round =>
            obtain ⟨j, hj, rfl, HWE⟩ := hrel
            obtain rfl := HWE.out
            by_cases hlt : j < 256
            · have hlt' : (j : Int) < 256 := by omega
              have h0' : (0 : Int) ≤ j := by omega
              have hcj : W4.cell? ⟨b10, j, none⟩ = some (.int .u8 ((min j k : Nat) : Int)) := by rw [HB10.out.cell, clV_at _ j hlt, bytes_at k j hmany hlt]
              by_cases hjk : j ≤ k
              · have hjk' : (j : Int) ≤ k := by omega
                rw [Nat.min_eq_left hjk] at hcj
                go_wp2
                go_roundw
                case rel => exact ⟨j + 1, by omega, by go_num, Lib.hid trivial⟩
                case measure => simp [intOf]; omega
              · have hjk' : ¬ (j : Int) ≤ k := by omega
                rw [Nat.min_eq_right (by omega)] at hcj
                go_wp2
                go_roundw
                case rel => exact ⟨j + 1, by omega, by go_num, Lib.hid trivial⟩
                case measure => simp [intOf]; omega
            · obtain rfl : j = 256 := by omega
              clear e5
              obtain ⟨e4, he4⟩ : ∃ e4 : St, e4 = ⟨0, 0, 0, 9223372036854775808⟩ := ⟨_, rfl⟩
              have HE4 : Hid (e4.ok ∧ rightR (oneR e4) = true) := by rw [he4]; exact ⟨⟨by decide, by decide, by decide, by decide⟩, by decide⟩
              have HOE : Hid (∀ W, Calls Try.prog 21 #[.agg #[.int .u64 0, .int .u64 0, .int .u64 0, .int .u64 9223372036854775808]] W fun e w' => e = .returned (.agg #[.int .u8 1, .int .u64 0, .int .u64 0, .int .u64 0, .int .u64 9223372036854775808, .slice none 0 0]) ∧ Below W.heap.size W w') := fun W => one_any ⟨0, 0, 0, 9223372036854775808⟩ W
              have HRE : Hid ((#[.int .u8 1, .int .u64 0, .int .u64 0, .int .u64 0, .int .u64 9223372036854775808, .slice none 0 0] : Array Value) = (ryCells (oneR e4)).toArray) := by show _ = _; rw [he4]; rfl
              obtain ⟨V3, hV3⟩ : ∃ V3, V3 = bytesS k ++ [s] ++ [e4] := ⟨_, rfl⟩
              have HV3 : Hid (V3.map oneR = L8 ++ [oneR s] ++ [oneR e4]) := by show _ = _; rw [hV3, HL8.out, List.map_append, List.map_append]; rfl
              have HOK3 : Hid (∀ x ∈ V3, x.ok ∧ rightR (oneR x) = true) := fun x hx => by
                rw [hV3] at hx
                rcases List.mem_append.1 hx with hx | hx
                · rcases List.mem_append.1 hx with hx | hx
                  · exact ⟨HOK2.out x hx, HRR2.out x hx⟩
                  · obtain rfl := List.mem_singleton.1 hx
                    exact ⟨HSOK.out, HR1.out⟩
                · obtain rfl := List.mem_singleton.1 hx
                  exact HE4.out
              have HN3 : Hid (V3.length ≤ 100000) := by show _ ≤ _; rw [hV3, List.length_append, List.length_append, bytesS_len]; simp; omega
              have HC3 := Lib.hid (clL_cp V3)
              have HFS : Hid (∀ (x : St) W, x.ok → partsB (clL V3) x = false → Calls Try.prog 16 #[.agg (clV V3), setV x] W fun e w' => e = .returned (.bool true) ∧ Below W.heap.size W w') := fun x W hx hp => by
                have := fits_any (clL V3) (manyOf (clL V3) : Int) x W (clL_cp V3).len hx
                rw [(clL_cp V3).right, hp] at this
                exact this
              have HF1 : Hid (∀ W, Calls Try.prog 16 #[.agg (clV V3), .agg #[.int .u64 (s.s0 : Int), .int .u64 (s.s1 : Int), .int .u64 (s.s2 : Int), .int .u64 (s.s3 : Int)]] W fun e w' => e = .returned (.bool true) ∧ Below W.heap.size W w') := fun W => HFS.out s W HSOK.out (HC3.out.fits_mem (by rw [hV3]; simp))
              have HF2 : Hid (∀ W, Calls Try.prog 16 #[.agg (clV V3), .agg #[.int .u64 0, .int .u64 0, .int .u64 0, .int .u64 0]] W fun e w' => e = .returned (.bool true) ∧ Below W.heap.size W w') := fun W => HFS.out ⟨0, 0, 0, 0⟩ W ⟨by decide, by decide, by decide, by decide⟩ (HC3.out.fits (fun i j _ _ _ => by rw [inS_zero, inS_zero]))
              have HF3 : Hid (∀ W, Calls Try.prog 16 #[.agg (clV V3), .agg #[.int .u64 0, .int .u64 0, .int .u64 0, .int .u64 9223372036854775808]] W fun e w' => e = .returned (.bool true) ∧ Below W.heap.size W w') := fun W => HFS.out ⟨0, 0, 0, 9223372036854775808⟩ W ⟨by decide, by decide, by decide, by decide⟩ (HC3.out.fits_mem (by rw [hV3, he4]; simp))
              obtain ⟨m3, hm3⟩ : ∃ m3, m3 = manyOf (clL V3) := ⟨_, rfl⟩
              have hmm : (k : Int) + 1 ≤ (m3 : Int) := by
                have := ((clL_cp (bytesS k)).finer HC3.out (fun s hs => by rw [hV3]; exact List.mem_append_left _ (List.mem_append_left _ hs))).2
                rw [bytes_many k hmany] at this
                omega
              have HM3 : Hid ((clV V3)[256]? = some (.int .i64 (m3 : Int))) := by show _ = _; rw [hm3]; exact clV_many V3
              have HLN2 : Hid (L8.length ≤ 1000) := by show _ ≤ _; rw [HLN.out]; omega
              have s0 := HBS.out.cell 0
              have s1 := HBS.out.cell 1
              have s2 := HBS.out.cell 2
              have s3 := HBS.out.cell 3
              simp at s0 s1 s2 s3
              have hst := HST.out V3
              have HBL2 : Hid (W2.heap.size ≤ W4.heap.size) := HW4.out.size
              obtain ⟨N3, hN3⟩ : ∃ N3, N3 = (V3.map oneR).length := ⟨_, rfl⟩
              have HN33 := Lib.hid hN3
              have TOK : Hid True := trivial
              clear hN3 hV3 he4 HFS HC3 hm3 hlt
              go_upto_region 23 with (first
                | (go_at_call 21; first
                  | (with_reducible refine (HOS.out _).mono ?_; rintro e w5 ⟨rfl, hb5⟩; have HO5 := Lib.hid (ownsRow_kept HO10.out hb5); have HT5 := Lib.hid hb5; have HC5 := Lib.hid (keep0 HB10.out hb5); clear hb5)
                  | (with_reducible refine (HOE.out _).mono ?_; rintro e w7 ⟨rfl, hb7⟩; have HO7 := Lib.hid (ownsRow_kept HO6.out hb7); have HT7 := Lib.hid (low0 HT6.out hb7 HBL2.out); have HC7 := Lib.hid (keep0 HC6.out hb7); clear hb7))
                | (go_at_call 10 ; refine HOF9.out.mono ?_; rintro e w9 ⟨rfl, hb9⟩)
                | (at_builtin; first
                  | (clear TOK; refine wpList_app_re rfl _ _ rfl W2.heap.size (.slice a8 k c8) L8 (oneR s) rfl (HO5.out.alloc _) w5.heap.size _ rfl rfl (Blk.new _ _ _) (by have := HLN2.out; omega) (by have := HT5.out.size; have := HBL2.out; rw [World.size_alloc]; omega) ?_; intro v6 w6 hown6 hg6; have HO6 := Lib.hid hown6; have HT6 : Hid (Below W2.heap.size W4 w6) := ((HT5.out.mono HBL2.out).alloc (by have := HT5.out.size; have := HBL2.out; omega) _).grown hg6 (by have := HT5.out.size; have := HBL2.out; rw [World.size_alloc]; omega) (fun r hr => (HO5.out.lt r hr).1); have HC6 := Lib.hid ((HC5.out.alloc _).kept hg6 (blk_apart HO5.out HC5.out (by decide))); clear hown6 hg6)
                  | (refine wpList_app_re rfl _ _ rfl W2.heap.size v6 (L8 ++ [oneR s]) (oneR e4) rfl (HO7.out.alloc _) w7.heap.size _ HRE.out rfl (Blk.new _ _ _) (by have := HLN2.out; rw [List.length_append]; simp; omega) (by have := HT7.out.size; have := HBL2.out; rw [World.size_alloc]; omega) ?_; intro v8 w8 hown8 hg8; have HT8 : Hid (Below W2.heap.size W4 w8) := (HT7.out.alloc (by have := HT7.out.size; have := HBL2.out; omega) _).grown hg8 (by have := HT7.out.size; have := HBL2.out; rw [World.size_alloc]; omega) (fun r hr => (HO7.out.lt r hr).1); rw [← HV3.out] at hown8; obtain ⟨a9, c9, hv8, hli9⟩ := ones_in hown8 (fun x hx => (HOK3.out x hx).1); have HOF9 := Lib.hid (HOFL.out a9 c9 V3 w8 (fun x hx => (HOK3.out x hx).2) HN3.out hli9); clear hown8; have HC8 := Lib.hid ((HC7.out.alloc _).kept hg8 (blk_apart HO7.out HC7.out (by decide))); rw [← HN33.out] at hv8 HOF9; subst hv8; clear hg8 hli9)))
              have hs9 : W2.heap.size ≤ w9.heap.size := Nat.le_trans (Nat.le_trans HBL2.out HT8.out.size) hb9.size
              have HT9 : Hid (Below W2.heap.size W4 (w9.alloc (.cells (clV V3) 25))) := (low0 HT8.out hb9 HBL2.out).alloc hs9 _
              have HC9 := Lib.hid ((keep0 HC8.out hb9).alloc (.cells (clV V3) 25))
              have HD9 := Lib.hid (Blk.new w9 25 (clV V3))
              clear hb9 hst HOF9 s0 s1 s2 s3 e10 hs9
              generalize w9.alloc (.cells (clV V3) 25) = W9 at *
              generalize w9.heap.size = b13 at *
              have hx := HBS.out.below HT9.out HB0LT.out
              have s0 := hx.cell 0
              have s1 := hx.cell 1
              have s2 := hx.cell 2
              have s3 := hx.cell 3
              simp at s0 s1 s2 s3
              have HK : Hid (∀ W, Below W9.heap.size W9 W → (LoadCl (.pointer (some ⟨b13, 0, none⟩))).run Try.prog W = .ok (.agg (clV V3)) W ∧ W.cell? ⟨b13, 256, none⟩ = some (.int .i64 (m3 : Int)) ∧ W.cell? ⟨b10, 256, none⟩ = some (.int .i64 ((k : Int) + 1))) := fun W hW => by
                have h1 := HD9.out.below hW HD9.out.lt
                have h2 := HC9.out.below hW HC9.out.lt
                refine ⟨loadCl_run (clL_cp V3).len h1, by rw [h1.cell]; exact HM3.out, ?_⟩
                rw [h2.cell, clV_many, bytes_many k hmany]
                rfl
              have l9 := (HK.out W9 (Below.refl _ _)).1
              clear hx
              go_wp2_with (first
                | (go_at_call 16; first
                  | (with_reducible refine (HF1.out _).mono ?_; rintro e w10 ⟨rfl, hb10⟩; have HE1 := Lib.hid hb10; obtain ⟨l10, -, -⟩ := HK.out _ hb10; clear hb10)
                  | (with_reducible refine (HF2.out _).mono ?_; rintro e w11 ⟨rfl, hb11⟩; have HE2 := Lib.hid (low_trans HE1.out hb11); obtain ⟨l11, -, -⟩ := HK.out _ HE2.out; clear hb11)
                  | (with_reducible refine (HF3.out _).mono ?_; rintro e w12 ⟨rfl, hb12⟩; have HE3 := Lib.hid (low_trans HE2.out hb12); obtain ⟨-, f13, f10⟩ := HK.out _ HE3.out; clear hb12))
                | (go_at_call 9; refine (HAW.out _).mono ?_; rintro e w14 ⟨rfl, hb14⟩; have HE4' := Lib.hid (low_trans HE3.out hb14); clear hb14))
              go_ret
              refine ⟨rfl, HL2.out.trans (Below.mono ?_ HL2.out.size)⟩
              exact HW4.out.trans (HT9.out.trans (HE4'.out.mono (Nat.le_trans HBL2.out HT9.out.size)))
end Go.Proofs.Ytlaccbkhlkomhaa
