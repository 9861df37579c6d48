/-
  The contracts of frankinglaw15.turned, frankinglaw15.local. Conditions: the text is of at most 2^40 bytes; the numbers lie in memory; the library's variable holds some value.
-/
import Derived.Test.YtjgadocojdieeaaGreatDoorPtCp
import Derived.Test.YtjgadocojdieeaaGreatDoorPtZr
namespace Go.Proofs.YtjgadocojdieeaaGreatDoor
open Go.RowKit Go.Shelf

theorem turn_step (bl l : List UInt8) (k : Nat) (hk : k < l.length) : ((turnD bl (l.take k) ++ l.drop k).set k (turnC bl k l[k])) = turnD bl (l.take (k + 1)) ++ l.drop (k + 1) ∧ (turnD bl (l.take k) ++ l.drop k)[k]? = some l[k] := by
  have hlen : (turnD bl (l.take k)).length = k := by rw [turn_len, List.length_take]; omega
  have hd : l.drop k = l[k] :: l.drop (k + 1) := List.drop_eq_getElem_cons hk
  have hs : turnD bl (l.take (k + 1)) = turnD bl (l.take k) ++ [turnC bl k l[k]] := by
    rw [List.take_succ_eq_append_getElem hk]
    unfold turnD
    rw [List.mapIdx_append]
    have : (l.take k).length = k := by rw [List.length_take]; omega
    rw [this]
    simp
  constructor
  · rw [List.set_append_right _ _ (by omega), hlen, Nat.sub_self, hd, List.set_cons_zero, hs, List.append_assoc]
    rfl
  · rw [List.getElem?_append_right (by omega), hlen, Nat.sub_self, hd]
    rfl
theorem turn_int (c : UInt8) (h : 97 ≤ c ∧ c ≤ 122) : ((c - 97 + 65).toNat : Int) = (c.toNat : Int) - 97 + 65 ∧ (97 : Int) ≤ (c.toNat : Int) ∧ (c.toNat : Int) ≤ 122 := by
  revert c
  exact all_u8 (by decide +kernel)
set_option maxRecDepth 100000 in
set_option maxHeartbeats 2000000 in
theorem turned_any (bl l : List UInt8) (hl : l.length ≤ 1099511627776) (a : Option Addr) (ca : Nat) (w : World) (hb : BytesAt w a bl) : Calls Tryz.prog 22 #[.string (bs l), .slice a bl.length ca] w fun e w' => e = .returned (.string (bs (turnD bl l))) ∧ Below w.heap.size w w' := by
  have hcv := Lib.run_convert_string_bytes (P := Tryz.prog) w 9 40 5 (bs l) (u := .string) Tryz.underlying9 Tryz.underlying40 Tryz.underlying5
  rw [bs_size] at hcv
  have HB := Lib.hid (BuW.new w l)
  have HLW := Lib.hid (bytesWorld_low w 5 (bs l))
  have hcg : l.length ≤ grownCap w l.length 0 5 := grownCap_ge w l.length 0 _
  generalize grownCap w l.length 0 5 = cp at *
  generalize Lib.bytesWorld w 5 (bs l) = W1 at *
  have HBY := Lib.hid (fun W (hW : Below w.heap.size w W) => (show BytesAt W a bl from RowAt.below hb hW))
  have hblm := hb.len
  obtain ⟨N, hN⟩ : ∃ N, N = w.heap.size := ⟨_, rfl⟩
  rw [← hN] at HB HLW HBY hcv ⊢
  obtain ⟨n, hn⟩ : ∃ n, n = l.length := ⟨_, rfl⟩
  rw [← hn] at hcg hcv hl
  obtain ⟨m, hm⟩ : ∃ m, m = bl.length := ⟨_, rfl⟩
  rw [← hm] at hblm ⊢
  have hmb : (m : Int) ≤ 9223372036854775807 := by unfold maxLen at hblm; omega
  have HNN := Lib.hid hn
  have HMM := Lib.hid hm
  clear hN hn hm hb
  generalize hS : bs l = S at *
  clear hS
  go_enter Tryz.func22, Tryz.ntmps22
  go_wp2
  go_loopw [12] (fun i wr => ∃ k : Nat, k ≤ n ∧ i = .int .i64 k ∧ Hid (BuW wr N (turnD bl (l.take k) ++ l.drop k)) ∧ Hid (Below N w wr)) (fun i _ => n - (intOf i).toNat)
  case atStart => exact ⟨0, Nat.zero_le _, rfl, HB.out, HLW.out⟩
  case round =>
    obtain ⟨k, hk, rfl, HBR, HLR⟩ := hrel
    have hk0 : (0 : Int) ≤ (k : Int) := by omega
    by_cases hlt : k < n
    · have hkl : k < l.length := by rw [← HNN.out]; exact hlt
      have hkz : (k : Int) < (n : Int) := by omega
      obtain ⟨e1, e2⟩ := turn_step bl l k hkl
      obtain ⟨e3, e4⟩ := List.getElem?_eq_some_iff.1 e2
      have hcell := HBR.out.cell e3
      rw [e4] at hcell
      obtain ⟨c0, f0⟩ := hcell
      have hkc : k < cp := by omega
      have hz0 : (0 : Int) ≤ (l[k].toNat : Int) := by omega
      have hz1 : (l[k].toNat : Int) < 256 := by have := l[k].toNat_lt; omega
      by_cases hc : 97 ≤ l[k] ∧ l[k] ≤ 122
      · obtain ⟨t1, t2, t3⟩ := turn_int l[k] hc
        by_cases hkm : k < m
        · have hkm2 : k < bl.length := by rw [← HMM.out]; exact hkm
          have hkmz : (k : Int) < (m : Int) := by omega
          obtain ⟨b, off, rfl, r0⟩ := BytesAt.at_ (HBY.out wr HLR.out) hkm2
          have hr0 : (0 : Int) ≤ (bl[k].toNat : Int) := by omega
          by_cases hodd : bl[k] % 2 = 1
          · have ht : turnC bl k l[k] = l[k] - 97 + 65 := by unfold turnC; rw [if_pos ⟨hc, hkm2, hodd⟩]
            have hrem : (bl[k].toNat : Int).tmod 2 = 1 := by
              rw [Int.tmod_eq_emod_of_nonneg hr0]
              have := congrArg UInt8.toNat hodd
              rw [UInt8.toNat_mod] at this
              have h2 : bl[k].toNat % 2 = 1 := this
              omega
            have HP := Lib.hid (HBR.out.put e3 (l[k] - 97 + 65))
            rw [← ht, e1, ht, t1] at HP
            have HLP : Hid (∀ u, Below N w (wr.setCell ⟨N, k, none⟩ u)) := fun u => HLR.out.setCell (p := ⟨N, k, none⟩) (Nat.le_refl _) u
            clear e1 e2 e3 e4 ht hodd hc t1
            generalize (bl[k].toNat : Int) = y at *
            clear hkm2
            generalize (l[k].toNat : Int) = z at *
            clear hkl
            go_wp2
            go_roundw
            case rel => exact ⟨k + 1, by omega, by go_num, HP.out, HLP.out _⟩
            case measure => simp [intOf]; omega
          · have ht : turnC bl k l[k] = l[k] := by unfold turnC; rw [if_neg (fun h => hodd h.2.2)]
            have hrem : (bl[k].toNat : Int).tmod 2 = 0 := by
              rw [Int.tmod_eq_emod_of_nonneg hr0]
              have h2 : ¬ bl[k].toNat % 2 = 1 := fun h => hodd (UInt8.toNat_inj.1 (by rw [UInt8.toNat_mod]; exact h))
              omega
            have HP : Hid (BuW wr N (turnD bl (l.take (k + 1)) ++ l.drop (k + 1))) := by
              have h := HBR.out
              rw [ht, ← e4, List.set_getElem_self] at e1
              rw [← e1]
              exact h
            clear e1 e2 e3 e4 ht hodd hc t1
            generalize (bl[k].toNat : Int) = y at *
            clear hkm2
            generalize (l[k].toNat : Int) = z at *
            clear hkl
            go_wp2
            go_roundw
            case rel => exact ⟨k + 1, by omega, by go_num, HP.out, HLR.out⟩
            case measure => simp [intOf]; omega
        · have hkmz : ¬ (k : Int) < (m : Int) := by omega
          have ht : turnC bl k l[k] = l[k] := by unfold turnC; rw [if_neg (fun h => hkm (by rw [HMM.out]; exact h.2.1))]
          have HP : Hid (BuW wr N (turnD bl (l.take (k + 1)) ++ l.drop (k + 1))) := by
            have h := HBR.out
            rw [ht, ← e4, List.set_getElem_self] at e1
            rw [← e1]
            exact h
          clear e1 e2 e3 e4 ht hc t1
          generalize (l[k].toNat : Int) = z at *
          clear hkl
          go_wp2
          go_roundw
          case rel => exact ⟨k + 1, by omega, by go_num, HP.out, HLR.out⟩
          case measure => simp [intOf]; omega
      · have ht : turnC bl k l[k] = l[k] := by unfold turnC; rw [if_neg (fun h => hc h.1)]
        have HP : Hid (BuW wr N (turnD bl (l.take (k + 1)) ++ l.drop (k + 1))) := by
          have h := HBR.out
          rw [ht, ← e4, List.set_getElem_self] at e1
          rw [← e1]
          exact h
        have hcz : ¬ ((97 : Int) ≤ (l[k].toNat : Int) ∧ (l[k].toNat : Int) ≤ 122) := fun h => hc ⟨UInt8.le_iff_toNat_le.2 (by show 97 ≤ l[k].toNat; omega), UInt8.le_iff_toNat_le.2 (by show l[k].toNat ≤ 122; omega)⟩
        clear e1 e2 e3 e4 ht hc
        generalize (l[k].toNat : Int) = z at *
        clear hkl
        by_cases h97 : (97 : Int) ≤ z
        · have h122 : ¬ z ≤ 122 := fun h => hcz ⟨h97, h⟩
          clear hcz
          go_wp2
          go_roundw
          case rel => exact ⟨k + 1, by omega, by go_num, HP.out, HLR.out⟩
          case measure => simp [intOf]; omega
        · clear hcz
          go_wp2
          go_roundw
          case rel => exact ⟨k + 1, by omega, by go_num, HP.out, HLR.out⟩
          case measure => simp [intOf]; omega
    · have hke : k = n := by omega
      have hkz : ¬ (k : Int) < (n : Int) := by omega
      have HB2 := Lib.hid (HBR.out)
      rw [hke, HNN.out, List.take_length, List.drop_length, List.append_nil] at HB2
      have hcv2 := conv_any wr (some ⟨N, 0, none⟩) (turnD bl l) cp (HB2.out.bytes (by rw [turn_len, ← HNN.out]; unfold maxLen; omega))
      rw [turn_len, ← HNN.out] at hcv2
      clear hke HBR
      go_wp2
      go_ret
      exact ⟨rfl, HLR.out⟩
end Go.Proofs.YtjgadocojdieeaaGreatDoor
