/-
  CommandCase answers true, and leaves its arguments as they were, for every input of bulk at most 1048576 (the form 'Upto'): the row, and the tied card. Conditions: that bound; the listed variables as the library's text lays them (the card ties them).
-/
import Derived.Test.YtnkepdeegpampaaGreatDoorM07
import Derived.Deep.RegionLaw
import Derived.Test.YtnkepdeegpampaaGreatDoorM05
import Derived.Test.YtnkepdeegpampaaGreatDoorRows
import Derived.Test.YtnkepdeegpampaaGreatDoorTie
import Derived.Test.YtnkepdeegpampaaGreatDoorCards
import Derived.WalkKit
import Derived.ProofKit
import Derived.OpenShut
import Derived.LaidMore
import Derived.Lay
import Derived.SevenTiedAt
import Derived.Stop.Joined
import Derived.Stop.LaidErr
import Derived.Lib.LaidTab
import Derived.Deep.DeepHandedRow
import Derived.ShutString
import Derived.ChangeOld
import Derived.Below
/-
  The contract of frankinglaw16.turned. Conditions: the text is of at most 2^40 bytes; the numbers lie in memory.
-/
namespace Go.Proofs.YtnkepdeegpampaaGreatDoor
open Go.RowKit Go.Shelf

theorem trn_step (bl l : List UInt8) (k : Nat) (hk : k < l.length) : ((trnD bl (l.take k) ++ l.drop k).set k (trnC bl k l[k])) = trnD bl (l.take (k + 1)) ++ l.drop (k + 1) ∧ (trnD bl (l.take k) ++ l.drop k)[k]? = some l[k] := by
  have hlen : (trnD bl (l.take k)).length = k := by rw [trn_len, List.length_take]; omega
  have hd : l.drop k = l[k] :: l.drop (k + 1) := List.drop_eq_getElem_cons hk
  have hs : trnD bl (l.take (k + 1)) = trnD bl (l.take k) ++ [trnC bl k l[k]] := by
    rw [List.take_succ_eq_append_getElem hk]
    unfold trnD
    rw [List.mapIdx_append]
    have : (l.take k).length = k := by rw [List.length_take]; omega
    rw [this]
    simp
  constructor
  · rw [List.set_append_right _ _ (by omega), hlen, Nat.sub_self, hd, List.set_cons_zero, hs, List.append_assoc]
    rfl
  · rw [List.getElem?_append_right (by omega), hlen, Nat.sub_self, hd]
    rfl
/-- beyond the numbers nothing is turned -/
theorem trn_end (bl l : List UInt8) : trnD bl (l.take (min l.length bl.length)) ++ l.drop (min l.length bl.length) = trnD bl l := by
  by_cases h : l.length ≤ bl.length
  · rw [Nat.min_eq_left h, List.take_length, List.drop_length, List.append_nil]
  · rw [Nat.min_eq_right (by omega)]
    have hat : ∀ (x : List UInt8) (i : Nat), (trnD bl x)[i]? = x[i]?.map (trnC bl i) := fun x i => by unfold trnD; exact List.getElem?_mapIdx
    have hl : (trnD bl (l.take bl.length)).length = bl.length := by rw [trn_len, List.length_take]; omega
    apply List.ext_getElem?
    intro i
    rw [hat l i]
    by_cases hi : i < bl.length
    · rw [List.getElem?_append_left (by omega), hat, List.getElem?_take, if_pos hi]
    · rw [List.getElem?_append_right (by omega), hl, List.getElem?_drop, show bl.length + (i - bl.length) = i by omega]
      have e : ∀ c, trnC bl i c = c := fun c => by
        unfold trnC
        rw [if_neg (fun h => hi h.2.1)]
      cases l[i]? with
      | none => rfl
      | some c => rw [Option.map_some, e]
theorem trn_int (c : UInt8) (h : 65 ≤ c ∧ c ≤ 90) : ((c + 97 - 65).toNat : Int) = (c.toNat : Int) + 97 - 65 ∧ (65 : Int) ≤ (c.toNat : Int) ∧ (c.toNat : Int) ≤ 90 := by
  revert c
  exact all_u8 (by decide +kernel)
set_option maxRecDepth 100000 in
set_option maxHeartbeats 2000000 in
theorem trn16_any (bl l : List UInt8) (hl : l.length ≤ 1099511627776) (a : Option Addr) (ca : Nat) (w : World) (hb : BytesAt w a bl) : Calls Tryz.prog 15 #[.string (bs l), .slice a bl.length ca] w fun e w' => e = .returned (.string (bs (trnD bl l))) ∧ Below w.heap.size w w' := by
  have hcv := Lib.run_convert_string_bytes (P := Tryz.prog) w 9 41 5 (bs l) (u := .string) Tryz.underlying9 Tryz.underlying41 Tryz.underlying5
  rw [bs_size] at hcv
  have HB := Lib.hid (BuW.new w l)
  have HLW := Lib.hid (bytesWorld_low w 5 (bs l))
  have hcg : l.length ≤ grownCap w l.length 0 5 := grownCap_ge w l.length 0 _
  generalize grownCap w l.length 0 5 = cp at *
  generalize Lib.bytesWorld w 5 (bs l) = W1 at *
  have HBY := Lib.hid (fun W (hW : Below w.heap.size w W) => (show BytesAt W a bl from RowAt.below hb hW))
  have hblm := hb.len
  obtain ⟨N, hN⟩ : ∃ N, N = w.heap.size := ⟨_, rfl⟩
  rw [← hN] at HB HLW HBY hcv ⊢
  have HEND := Lib.hid (trn_end bl l)
  obtain ⟨n, hn⟩ : ∃ n, n = l.length := ⟨_, rfl⟩
  obtain ⟨m, hm⟩ : ∃ m, m = bl.length := ⟨_, rfl⟩
  rw [← hn, ← hm] at HEND
  rw [← hn] at hcg hcv hl
  rw [← hm] at hblm ⊢
  have hmb : (m : Int) ≤ 9223372036854775807 := by unfold maxLen at hblm; omega
  have HNN := Lib.hid hn
  have HMM := Lib.hid hm
  clear hN hn hm hb
  generalize hS : bs l = S at *
  clear hS
  have hmin : min (n : Int) (m : Int) = ((min n m : Nat) : Int) := by omega
  have hq1 : min n m ≤ n := Nat.min_le_left _ _
  have hq2 : min n m ≤ m := Nat.min_le_right _ _
  obtain ⟨q, hq⟩ : ∃ q, q = min n m := ⟨_, rfl⟩
  rw [← hq] at hmin hq1 hq2 HEND
  have HQQ := Lib.hid hq
  clear hq
  go_enter Tryz.func15, Tryz.ntmps15
  go_wp2
  go_loopw [15] (fun i wr => ∃ k : Nat, k ≤ q ∧ i = .int .i64 k ∧ Hid (BuW wr N (trnD bl (l.take k) ++ l.drop k)) ∧ Hid (Below N w wr)) (fun i _ => q - (intOf i).toNat)
  case atStart => exact ⟨0, Nat.zero_le _, rfl, HB.out, HLW.out⟩
  case round =>
    obtain ⟨k, hk, rfl, HBR, HLR⟩ := hrel
    have hk0 : (0 : Int) ≤ (k : Int) := by omega
    by_cases hlt : k < q
    · have hkl : k < l.length := by rw [← HNN.out]; omega
      have hkz : (k : Int) < (q : Int) := by omega
      obtain ⟨e1, e2⟩ := trn_step bl l k hkl
      obtain ⟨e3, e4⟩ := List.getElem?_eq_some_iff.1 e2
      have hcell := HBR.out.cell e3
      rw [e4] at hcell
      obtain ⟨c0, f0⟩ := hcell
      have hkn : k < n := by omega
      have hkc : k < cp := by omega
      have hz0 : (0 : Int) ≤ (l[k].toNat : Int) := by omega
      have hz1 : (l[k].toNat : Int) < 256 := by have := l[k].toNat_lt; omega
      have hkm2 : k < bl.length := by rw [← HMM.out]; omega
      have hkm : k < m := by omega
      have hkmz : (k : Int) < (m : Int) := by omega
      have hknz : (k : Int) < (n : Int) := by omega
      obtain ⟨b, off, rfl, r0⟩ := BytesAt.at_ (HBY.out wr HLR.out) hkm2
      have hr0 : (0 : Int) ≤ (bl[k].toNat : Int) := by omega
      have hr1 : (bl[k].toNat : Int) < 256 := by have := bl[k].toNat_lt; omega
      by_cases hc : 65 ≤ l[k] ∧ l[k] ≤ 90
      · obtain ⟨t1, t2, t3⟩ := trn_int l[k] hc
        by_cases hodd : bl[k] % 2 = 1
        · have ht : trnC bl k l[k] = l[k] + 97 - 65 := by unfold trnC; rw [if_pos ⟨hc, hkm2, hodd⟩]
          have hrem : (bl[k].toNat : Int).tmod 2 = 1 := by
            rw [Int.tmod_eq_emod_of_nonneg hr0]
            have := congrArg UInt8.toNat hodd
            rw [UInt8.toNat_mod] at this
            have h2 : bl[k].toNat % 2 = 1 := this
            omega
          have hrem2 : (bl[k].toNat : Int) % 2 = 1 := by rw [← Int.tmod_eq_emod_of_nonneg hr0]; exact hrem
          have HP := Lib.hid (HBR.out.put e3 (l[k] + 97 - 65))
          rw [← ht, e1, ht, t1] at HP
          have HLP : Hid (∀ u, Below N w (wr.setCell ⟨N, k, none⟩ u)) := fun u => HLR.out.setCell (p := ⟨N, k, none⟩) (Nat.le_refl _) u
          clear e1 e2 e3 e4 ht hodd hc t1
          generalize (bl[k].toNat : Int) = y at *
          clear hkm2
          generalize (l[k].toNat : Int) = z at *
          clear hkl
          go_wp2
          go_roundw
          case rel => exact ⟨k + 1, by omega, by go_num, HP.out, HLP.out _⟩
          case measure => simp [intOf]; omega
        · have ht : trnC bl k l[k] = l[k] := by unfold trnC; rw [if_neg (fun h => hodd h.2.2)]
          have hrem : (bl[k].toNat : Int).tmod 2 = 0 := by
            rw [Int.tmod_eq_emod_of_nonneg hr0]
            have h2 : ¬ bl[k].toNat % 2 = 1 := fun h => hodd (UInt8.toNat_inj.1 (by rw [UInt8.toNat_mod]; exact h))
            omega
          have hrem2 : (bl[k].toNat : Int) % 2 = 0 := by rw [← Int.tmod_eq_emod_of_nonneg hr0]; exact hrem
          have HP : Hid (BuW wr N (trnD bl (l.take (k + 1)) ++ l.drop (k + 1))) := by
            have h := HBR.out
            rw [ht, ← e4, List.set_getElem_self] at e1
            rw [← e1]
            exact h
          clear e1 e2 e3 e4 ht hodd hc t1
          generalize (bl[k].toNat : Int) = y at *
          clear hkm2
          generalize (l[k].toNat : Int) = z at *
          clear hkl
          go_wp2
          go_roundw
          case rel => exact ⟨k + 1, by omega, by go_num, HP.out, HLR.out⟩
          case measure => simp [intOf]; omega
      · have ht : trnC bl k l[k] = l[k] := by unfold trnC; rw [if_neg (fun h => hc h.1)]
        have HP : Hid (BuW wr N (trnD bl (l.take (k + 1)) ++ l.drop (k + 1))) := by
          have h := HBR.out
          rw [ht, ← e4, List.set_getElem_self] at e1
          rw [← e1]
          exact h
        have hcz : ¬ ((65 : Int) ≤ (l[k].toNat : Int) ∧ (l[k].toNat : Int) ≤ 90) := fun h => hc ⟨UInt8.le_iff_toNat_le.2 (by show 65 ≤ l[k].toNat; omega), UInt8.le_iff_toNat_le.2 (by show l[k].toNat ≤ 90; omega)⟩
        clear e1 e2 e3 e4 ht hc
        generalize (bl[k].toNat : Int) = y at *
        clear hkm2
        generalize (l[k].toNat : Int) = z at *
        clear hkl
        by_cases h97 : (65 : Int) ≤ z
        · have h122 : ¬ z ≤ 90 := fun h => hcz ⟨h97, h⟩
          clear hcz
          go_wp2
          go_roundw
          case rel => exact ⟨k + 1, by omega, by go_num, HP.out, HLR.out⟩
          case measure => simp [intOf]; omega
        · clear hcz
          go_wp2
          go_roundw
          case rel => exact ⟨k + 1, by omega, by go_num, HP.out, HLR.out⟩
          case measure => simp [intOf]; omega
    · have hke : k = q := by omega
      have hkz : ¬ (k : Int) < (q : Int) := by omega
      have HB2 : Hid (BuW wr N (trnD bl l)) := by
        have h := HBR.out
        rw [hke, HEND.out] at h
        exact h
      have hcv2 := conv_any wr (some ⟨N, 0, none⟩) (trnD bl l) cp (HB2.out.bytes (by rw [trn_len, ← HNN.out]; unfold maxLen; omega))
      rw [trn_len, ← HNN.out] at hcv2
      clear hke HBR
      go_wp2
      go_ret
      exact ⟨rfl, HLR.out⟩
end Go.Proofs.YtnkepdeegpampaaGreatDoor

/-
  The contract of frankinglaw16.CommandAgain. Conditions: the variables that are read.
-/
namespace Go.Proofs.YtnkepdeegpampaaGreatDoor
open Go.RowKit Go.Shelf

/-- a command that was told is no longer than its line -/
theorem told_fits {line : List UInt8} {c : Cm} (h : cmdP line = (c, 0)) : c.verb ≤ 255 ∧ CmFits c 1099511627776 := by
  obtain ⟨h1, h2, h3, h4⟩ := line_right h
  obtain ⟨hn, v1, v2, ht, e⟩ := right_some h2
  have hbl : (behindP c).length ≤ 510 := by
    rw [e, List.length_append] at hn
    by_cases hb : behindP c = []
    · rw [hb]; exact Nat.zero_le _
    · rw [if_neg hb, List.length_cons] at hn; omega
  refine ⟨by omega, ?_⟩
  by_cases hs : c.verb = 3 ∨ c.verb = 4
  · obtain ⟨ahead, hv2⟩ : ∃ ahead, (c.verb = 3 ∧ ahead = fromT ∨ c.verb = 4 ∧ ahead = toT) := by
      rcases hs with h | h
      · exact ⟨fromT, .inl ⟨h, rfl⟩⟩
      · exact ⟨toT, .inr ⟨h, rfl⟩⟩
    obtain ⟨k1, k2, k3, k4, k5, k6⟩ := sent_some hv2 h2
    have ha : c.arg = [] := congrArg Cm.arg k3
    obtain ⟨r1, r2, r3, r4⟩ := right_lens k1.right
    have hpl : (c.params.flatMap pmT).length ≤ 510 := by
      rw [k2, List.length_append, List.length_append] at hbl
      omega
    refine ⟨by rw [ha]; exact Nat.zero_le _, ⟨by omega, by omega, fun d hd => by have := r4 d hd; omega⟩, fun p hp => ?_⟩
    have hpp : (pmT p).length ≤ (c.params.flatMap pmT).length := by
      obtain ⟨l1, l2, hl⟩ := List.append_of_mem hp
      rw [hl, List.flatMap_append, List.flatMap_cons, List.length_append, List.length_append]
      omega
    have hk : p.key.length ≤ (pmT p).length := by
      unfold pmT
      rw [List.length_cons, List.length_append]
      omega
    have hv : p.value.length ≤ (pmT p).length := by
      cases hh : p.has with
      | false => rw [(k1.fine p hp).2.2.1 hh]; exact Nat.zero_le _
      | true => unfold pmT; rw [if_pos hh]; simp; omega
    exact ⟨by omega, by omega⟩
  · have hb : behindP c = c.arg := by unfold behindP; rw [if_neg (by omega), if_neg (by omega)]
    rw [hb] at hbl ht
    have hpq : c.path = {} ∧ c.params = [] := by
      obtain ⟨v, arg, p, l⟩ := c
      simp only at v1 v2 hs
      generalize (!decide (arg = [])) = bl at ht
      have h2' := (Prod.mk.inj ht).1
      obtain hv | hv | hv | hv | hv | hv | hv | hv | hv : v = 1 ∨ v = 2 ∨ v = 5 ∨ v = 6 ∨ v = 7 ∨ v = 8 ∨ v = 9 ∨ v = 10 ∨ v = 11 := by omega
      all_goals
        subst hv
      all_goals
        first
        | exact ⟨(congrArg Cm.path h2').symm, (congrArg Cm.params h2').symm⟩
        | (cases bl
           · exact ⟨(congrArg Cm.path h2').symm, (congrArg Cm.params h2').symm⟩
           · exact ⟨(congrArg Cm.path h2').symm, (congrArg Cm.params h2').symm⟩)
    obtain ⟨q1, q2⟩ := hpq
    refine ⟨by omega, ?_, fun p hp => ?_⟩
    · rw [q1]
      exact ⟨Nat.zero_le _, Nat.zero_le _, fun d hd => by cases hd⟩
    · rw [q2] at hp
      cases hp
set_option maxRecDepth 100000 in
set_option maxHeartbeats 2000000 in
theorem again16_any (line : List UInt8) (hl : line.length ≤ 9223372036854775807) (w : World) (he : Env w) : Calls Tryz.prog 4 #[.string (bs line)] w (SameOut w true) := by
  have HQ : Hid (∀ w', Below w.heap.size w w' → SameOut w true (.returned (.bool true)) w') := fun w' h => ⟨rfl, h⟩
  generalize SameOut w true = Q at *
  have HAW := Lib.hid (fun W (hW : Below w.heap.size w W) => awake16_any W (he.later hW))
  have HE := Lib.hid (fun W (hW : Below w.heap.size w W) => he.later hW)
  have hp := cparse_any line hl w he
  have hls : (bs line).size = line.length := rfl
  obtain ⟨d, hd⟩ : ∃ d, d = (cmdP line).1 := ⟨_, rfl⟩
  obtain ⟨z, hz⟩ : ∃ z, z = (cmdP line).2 := ⟨_, rfl⟩
  have hdz : cmdP line = (d, z) := by rw [hd, hz]
  have hbad := cmd_bad line
  rw [← hd, ← hz] at hbad hp
  have HPA := Lib.hid (hp.mono fun _ _ h => h.in_)
  clear hd hz hp
  by_cases h0 : z = 0
  · subst h0
    obtain ⟨k1, k2, k3, k4⟩ := line_right hdz
    obtain ⟨f1, f2⟩ := told_fits hdz
    have HPR := Lib.hid (fun a1 c1 a2 c2 W (hi : CmIn W d a1 c1 a2) (hW : Below w.heap.size w W) => cprint_any d f1 a1 a2 c1 c2 f2 W hi (HE.out W hW))
    unfold PrOut printC at HPR
    rw [if_pos k2] at HPR
    have HPB := Lib.hid (fun W (hW : Below w.heap.size w W) => (cparse_any (lineP d) (by omega) W (HE.out W hW)).mono fun _ _ h => h.in_)
    rw [k4] at HPB
    have HSS := Lib.hid (fun W a1 c1 a2 c2 b1 d1 b2 d2 (h1 : CmIn W d a1 c1 a2) (h2 : CmIn W d b1 d1 b2) => same16_any d d a1 a2 b1 b2 c1 c2 d1 d2 W h1.route h1.pms h2.route h2.pms)
    rw [decide_eq_true rfl] at HSS
    have hll : (bs (lineP d)).size = (lineP d).length := rfl
    have hlz : ((lineP d).length : Int) ≤ (line.length : Int) := by omega
    have hlz2 : (lineP d).length ≤ line.length := k3
    unfold cmV cmCells at HPA HPR HPB HSS
    clear k1 k2 k3 k4 f1 f2 hdz hbad he
    generalize (lineP d).length = l1 at *
    generalize line.length = l2 at *
    generalize bs (lineP d) = S1 at *
    generalize bs line = S at *
    go_enter Tryz.func4, Tryz.ntmps4
    go_upto_region 2 with (go_at_call 11; refine HPA.out.mono ?_; rintro e w2 ⟨a1, c1, a2, c2, rfl, hi, hb⟩; have HI2 := Lib.hid hi; have HB2 := Lib.hid hb; clear hb hi)
    change Code.wp _ _ _ _ (World.alloc w2 (.cells #[.int .u8 (d.verb : Int), .string (bs d.arg), .bool d.path.null, .slice a1 d.path.route.length c1, .string (bs d.path.loc), .string (bs d.path.dom), .bool d.path.lit, .slice a2 d.params.length c2] 29))
    obtain ⟨W3, hW3⟩ : ∃ W3, W3 = w2.alloc (.cells #[.int .u8 (d.verb : Int), .string (bs d.arg), .bool d.path.null, .slice a1 d.path.route.length c1, .string (bs d.path.loc), .string (bs d.path.dom), .bool d.path.lit, .slice a2 d.params.length c2] 29) := ⟨_, rfl⟩
    obtain ⟨g3, hg3⟩ : ∃ g, g = w2.heap.size := ⟨_, rfl⟩
    have HK3 : Hid (Blk W3 g3 29 #[.int .u8 (d.verb : Int), .string (bs d.arg), .bool d.path.null, .slice a1 d.path.route.length c1, .string (bs d.path.loc), .string (bs d.path.dom), .bool d.path.lit, .slice a2 d.params.length c2]) := by rw [hW3, hg3]; exact Blk.new _ _ _
    have HB3 : Hid (Below w.heap.size w W3) := by rw [hW3]; exact HB2.out.alloc HB2.out.size _
    have HI3 : Hid (CmIn W3 d a1 c1 a2) := by rw [hW3]; exact HI2.out.below ((Below.refl _ w2).alloc (Nat.le_refl _) _)
    have HKY : Hid (∀ W, Below W3.heap.size W3 W → Blk W g3 29 #[.int .u8 (d.verb : Int), .string (bs d.arg), .bool d.path.null, .slice a1 d.path.route.length c1, .string (bs d.path.loc), .string (bs d.path.dom), .bool d.path.lit, .slice a2 d.params.length c2]) := fun W hW => HK3.out.below hW HK3.out.lt
    rw [← hW3, ← hg3]
    clear hW3 hg3 HPA HB2 HI2
    obtain ⟨x0, x1, x2, x3, x4, x5, x6, x7⟩ := cells8 HK3.out
    have HPR2 := Lib.hid (HPR.out a1 c1 a2 c2 W3 HI3.out HB3.out)
    go_upto_region 7 with (first | (go_at_call 8; refine HPR2.out.mono ?_; rintro e w4 ⟨rfl, hb⟩; have HB4 := Lib.hid hb; clear hb x0 x1 x2 x3 x4 x5 x6 x7) | (go_at_call 11; refine (HPB.out _ (low_trans HB3.out HB4.out)).mono ?_; rintro e w5 ⟨b1, d1, b2, d2, rfl, hi, hb⟩; have HB5 := Lib.hid (low_trans HB4.out hb); have HI5 := Lib.hid hi; clear hb hi))
    change Code.wp _ _ _ _ (World.alloc w5 (.cells #[.int .u8 (d.verb : Int), .string (bs d.arg), .bool d.path.null, .slice b1 d.path.route.length d1, .string (bs d.path.loc), .string (bs d.path.dom), .bool d.path.lit, .slice b2 d.params.length d2] 29))
    obtain ⟨W6, hW6⟩ : ∃ W6, W6 = w5.alloc (.cells #[.int .u8 (d.verb : Int), .string (bs d.arg), .bool d.path.null, .slice b1 d.path.route.length d1, .string (bs d.path.loc), .string (bs d.path.dom), .bool d.path.lit, .slice b2 d.params.length d2] 29) := ⟨_, rfl⟩
    obtain ⟨g6, hg6⟩ : ∃ g, g = w5.heap.size := ⟨_, rfl⟩
    have HK6 : Hid (Blk W6 g6 29 #[.int .u8 (d.verb : Int), .string (bs d.arg), .bool d.path.null, .slice b1 d.path.route.length d1, .string (bs d.path.loc), .string (bs d.path.dom), .bool d.path.lit, .slice b2 d.params.length d2]) := by rw [hW6, hg6]; exact Blk.new _ _ _
    have HB6 : Hid (Below W3.heap.size W3 W6) := by rw [hW6]; exact HB5.out.alloc HB5.out.size _
    have HI6 : Hid (CmIn W6 d b1 d1 b2) := by rw [hW6]; exact HI5.out.below ((Below.refl _ w5).alloc (Nat.le_refl _) _)
    rw [← hW6, ← hg6]
    clear hW6 hg6 HPR HPR2 HPB
    obtain ⟨x0, x1, x2, x3, x4, x5, x6, x7⟩ := cells8 (HKY.out _ HB6.out)
    obtain ⟨y0, y1, y2, y3, y4, y5, y6, y7⟩ := cells8 HK6.out
    have HSM := Lib.hid (HSS.out W6 a1 c1 a2 c2 b1 d1 b2 d2 (HI3.out.below HB6.out) HI6.out)
    clear HSS
    go_wp2_with (first | (go_at_call 12; refine HSM.out.mono ?_; rintro e w7 ⟨rfl, hb⟩; have HB7 := Lib.hid (low_trans (low_trans HB3.out HB6.out) hb); clear hb) | (go_at_call 10; refine (HAW.out _ HB7.out).mono ?_; rintro e wA ⟨rfl, hb⟩; have HBA := Lib.hid (low_trans HB7.out hb); clear hb))
    exact HQ.out _ HBA.out
  · have hzb : (z == 0) = false := by simpa using h0
    rcases hbad with hbad | ⟨hdd, hbad⟩
    · exact absurd hbad h0
    · subst hdd
      have HPC : Hid (Calls Tryz.prog 11 #[.string (bs line)] w fun e w' => ∃ a1 c1 a2 c2, e = .returned (.tuple #[.agg #[.int .u8 0, .string ⟨#[]⟩, .bool false, .slice a1 0 c1, .string ⟨#[]⟩, .string ⟨#[]⟩, .bool false, .slice a2 0 c2], .int .i64 z]) ∧ Below w.heap.size w w') := HPA.out.mono fun e w' hh => by
        obtain ⟨a1, c1, a2, c2, h1, _, h3⟩ := hh
        exact ⟨a1, c1, a2, c2, h1, h3⟩
      have HSM : Hid (∀ W a1 c1 a2 c2, Calls Tryz.prog 12 #[.agg #[.int .u8 0, .string ⟨#[]⟩, .bool false, .slice a1 0 c1, .string ⟨#[]⟩, .string ⟨#[]⟩, .bool false, .slice a2 0 c2], .agg #[.int .u8 0, .string ⟨#[]⟩, .bool false, .slice none 0 0, .string ⟨#[]⟩, .string ⟨#[]⟩, .bool false, .slice none 0 0]] W (SameOut W true)) := fun W a1 c1 a2 c2 => same16_any {} {} a1 a2 none none c1 c2 0 0 W (noTexts W a1) (noPms W a2) (noTexts W none) (noPms W none)
      clear HPA hdz he
      have key : (510 < line.length ∧ z = 3) ∨ (line.length ≤ 510 ∧ z = 160) ∨ (line.length ≤ 510 ∧ z = 161) := by
        rcases hbad with ⟨h1, h2⟩ | ⟨h1, h2⟩ | ⟨h1, h2⟩
        · exact .inl ⟨h2, h1⟩
        · exact .inr (.inl ⟨h2, h1⟩)
        · exact .inr (.inr ⟨h2, h1⟩)
      clear hbad h0 hzb
      generalize line.length = l2 at *
      generalize bs line = S at *
      rcases key with ⟨h1, rfl⟩ | ⟨h1, rfl⟩ | ⟨h1, rfl⟩
      all_goals
        first
        | (have hlz : (510 : Int) < (l2 : Int) := by omega
           have hld : decide ((510 : Int) < (l2 : Int)) = true := decide_eq_true hlz)
        | (have hlz : ¬ (510 : Int) < (l2 : Int) := by omega
           have hld : decide ((510 : Int) < (l2 : Int)) = false := decide_eq_false hlz)
        go_enter Tryz.func4, Tryz.ntmps4
        go_upto_region 2 with (go_at_call 11; refine HPC.out.mono ?_; rintro e w2 ⟨a1, c1, a2, c2, rfl, hb⟩; have HB2 := Lib.hid hb; clear hb)
        change Code.wp _ _ _ _ (World.alloc w2 (.cells #[.int .u8 0, .string ⟨#[]⟩, .bool false, .slice a1 0 c1, .string ⟨#[]⟩, .string ⟨#[]⟩, .bool false, .slice a2 0 c2] 29))
        obtain ⟨W3, hW3⟩ : ∃ W3, W3 = w2.alloc (.cells #[.int .u8 0, .string ⟨#[]⟩, .bool false, .slice a1 0 c1, .string ⟨#[]⟩, .string ⟨#[]⟩, .bool false, .slice a2 0 c2] 29) := ⟨_, rfl⟩
        obtain ⟨g3, hg3⟩ : ∃ g, g = w2.heap.size := ⟨_, rfl⟩
        have HK3 : Hid (Blk W3 g3 29 #[.int .u8 0, .string ⟨#[]⟩, .bool false, .slice a1 0 c1, .string ⟨#[]⟩, .string ⟨#[]⟩, .bool false, .slice a2 0 c2]) := by rw [hW3, hg3]; exact Blk.new _ _ _
        have HB3 : Hid (Below w.heap.size w W3) := by rw [hW3]; exact HB2.out.alloc HB2.out.size _
        rw [← hW3, ← hg3]
        clear hW3 hg3 HPC HB2
        obtain ⟨x0, x1, x2, x3, x4, x5, x6, x7⟩ := cells8 HK3.out
        go_wp2_with (first | (go_at_call 12; refine (HSM.out _ _ _ _ _).mono ?_; rintro e w4 ⟨rfl, hb⟩; have HB4 := Lib.hid (low_trans HB3.out hb); clear hb) | (go_at_call 10; refine (HAW.out _ HB4.out).mono ?_; rintro e wA ⟨rfl, hb⟩; have HBA := Lib.hid (low_trans HB4.out hb); clear hb))
        exact HQ.out _ HBA.out
end Go.Proofs.YtnkepdeegpampaaGreatDoor

/-
  The contract of frankinglaw16.CommandCase. Conditions: texts of at most 2^40 bytes; the command and the numbers lie in memory; the variables that are read.
-/
namespace Go.Proofs.YtnkepdeegpampaaGreatDoor
open Go.RowKit Go.Shelf

/-- a key with its letters turned, as it is turned behind a blank -/
def kT (bl : List UInt8) (p : Pm) : List UInt8 := (trnD bl (32 :: p.key)).drop 1
theorem kT_cons (bl : List UInt8) (p : Pm) : trnD bl (32 :: p.key) = 32 :: kT bl p := by
  unfold kT trnD
  rw [List.mapIdx_cons]
  have : trnC bl 0 32 = 32 := by unfold trnC; rw [if_neg (fun h => absurd h.1.1 (by decide))]
  rw [this]
  rfl
theorem kT_up (bl : List UInt8) {p : Pm} (h : PmFine p) : up (kT bl p) = p.key := by
  have h1 := trn_up bl (32 :: p.key)
  rw [kT_cons] at h1
  unfold up at h1
  rw [List.map_cons, List.map_cons] at h1
  injection h1 with _ h2
  exact h2.trans h.2.1
theorem zip_self {α β : Type} (f : α → β) (l : List α) : (l.map f).zip l = l.map fun p => (f p, p) := by
  induction l with
  | nil => rfl
  | cons p l ih => rw [List.map_cons, List.zip_cons_cons, ih, List.map_cons]
/-- the line of MAIL and RCPT as the law makes it, up to a parameter -/
def caseT (bl ahead : List UInt8) (c : Cm) (k : Nat) : List UInt8 := trnD bl (wordP c.verb ++ 32 :: ahead) ++ (printD c.path ++ joinC 32 ((c.params.take k).map fun p => pmS (kT bl p) p))
theorem caseT_end {c : Cm} {ahead : List UInt8} (hv : c.verb = 3 ∧ ahead = fromT ∨ c.verb = 4 ∧ ahead = toT) (h : rightC c = true) (bl : List UInt8) : cmdP (caseT bl ahead c c.params.length) = (c, 0) ∧ (caseT bl ahead c c.params.length).length = (lineP c).length := by
  obtain ⟨k1, k2, k3, k4, k5, k6⟩ := sent_some hv h
  obtain ⟨_, v1, v2, _, _⟩ := right_some h
  have ht : up (trnD bl (wordP c.verb ++ 32 :: ahead)) = wordP c.verb ++ 32 :: ahead := by
    rw [trn_up, up_app, (word_up v1 v2).1]
    show wordP c.verb ++ (upc 32 :: up ahead) = _
    rw [k6]
    rfl
  have hk : (c.params.map (kT bl)).map up = c.params.map (·.key) := by
    rw [List.map_map]
    exact List.map_congr_left fun p hp => kT_up bl (k1.fine p hp)
  have := turned_sent hv h ht hk
  rw [zip_self, List.map_map] at this
  unfold caseT
  rw [List.take_length]
  exact this
theorem caseT_len {c : Cm} {ahead : List UInt8} (hv : c.verb = 3 ∧ ahead = fromT ∨ c.verb = 4 ∧ ahead = toT) (h : rightC c = true) (bl : List UInt8) (k : Nat) : (caseT bl ahead c k).length ≤ 510 := by
  have h1 := (caseT_end hv h bl).2
  have h2 := (right_some h).1
  have h3 : (joinC 32 ((c.params.take k).map fun p => pmS (kT bl p) p)).length ≤ (joinC 32 (c.params.map fun p => pmS (kT bl p) p)).length := by
    conv => rhs; rw [← List.take_append_drop k c.params]
    rw [List.map_append]
    unfold joinC
    rw [List.flatMap_append, List.length_append]
    omega
  unfold caseT at h1 ⊢
  rw [List.take_length] at h1
  rw [List.length_append, List.length_append] at h1 ⊢
  omega
theorem caseT_step (bl ahead : List UInt8) (c : Cm) (k : Nat) (hk : k < c.params.length) : caseT bl ahead c (k + 1) = caseT bl ahead c k ++ trnD bl (32 :: c.params[k].key) ++ (if c.params[k].has = true then 61 :: c.params[k].value else []) := by
  unfold caseT
  rw [List.take_succ_eq_append_getElem hk, List.map_append, kT_cons]
  unfold joinC
  rw [List.flatMap_append]
  simp only [List.map_cons, List.map_nil, List.flatMap_cons, List.flatMap_nil, List.append_nil, pmS, List.append_assoc, List.cons_append]
set_option maxRecDepth 100000 in
set_option maxHeartbeats 2000000 in
theorem case16_any (c : Cm) (hv : c.verb ≤ 255) (a1 a2 : Option Addr) (c1 c2 : Nat) (hf : CmFits c 1099511627776) (bl : List UInt8) (ab : Option Addr) (cb : Nat) (w : World) (hi : CmIn w c a1 c1 a2) (hbl : BytesAt w ab bl) (he : Env w) : Calls Tryz.prog 5 #[cmV c a1 c1 a2 c2, .slice ab bl.length cb] w (SameOut w true) := by
  obtain ⟨W1, hW1⟩ : ∃ W1, W1 = w.alloc (.cells (cmCells c (.slice a1 c.path.route.length c1) (.slice a2 c.params.length c2)) 29) := ⟨_, rfl⟩
  obtain ⟨g1, hg1⟩ : ∃ g1, g1 = w.heap.size := ⟨_, rfl⟩
  have hb1 : Below w.heap.size w W1 := by rw [hW1]; exact (Below.refl _ w).alloc (Nat.le_refl _) _
  have hk1 : Blk W1 g1 29 (cmCells c (.slice a1 c.path.route.length c1) (.slice a2 c.params.length c2)) := by rw [hW1, hg1]; exact Blk.new _ _ _
  have hi1 := hi.below hb1
  have he1 := he.later hb1
  have HE := Lib.hid (fun W (hW : Below W1.heap.size W1 W) => he1.later hW)
  have HPR := Lib.hid (fun W (hW : Below W1.heap.size W1 W) => cprint_any c hv a1 a2 c1 c2 hf W (hi1.below hW) (he1.later hW))
  have HAW := Lib.hid (fun W (hW : Below W1.heap.size W1 W) => awake16_any W (he1.later hW))
  have HWO := Lib.hid (fun W (hW : Below W1.heap.size W1 W) => word_any c.verb hv W (he1.later hW))
  have HTU := Lib.hid (fun l (hl : l.length ≤ 1000) W (hW : Below W1.heap.size W1 W) => trn16_any bl l (by omega) ab cb W (RowAt.below (RowAt.below hbl hb1) hW))
  have HPP := Lib.hid (fun W (hW : Below W1.heap.size W1 W) => print_any c.path a1 c1 W hi1.room (RowAt.below hi1.route hW) hf.path (he1.later hW).err)
  have HPI : Hid (∀ W, Below W1.heap.size W1 W → PmsAt W a2 c.params) := fun W hW => RowAt.below hi1.pms hW
  have HSS := Lib.hid (fun W b1 b2 d1 d2 (hW : Below W1.heap.size W1 W) (k1 : TextsAt W b1 c.path.route) (k2 : PmsAt W b2 c.params) => same16_any c c a1 a2 b1 b2 c1 c2 d1 d2 W (RowAt.below hi1.route hW) (RowAt.below hi1.pms hW) k1 k2)
  rw [decide_eq_true rfl] at HSS
  have HL1 := Lib.hid hb1
  have HK1 := Lib.hid hk1
  have HQ : Hid (∀ w', Below w.heap.size w w' → SameOut w true (.returned (.bool true)) w') := fun w' h => ⟨rfl, h⟩
  generalize SameOut w true = Q at *
  unfold PrOut at HPR HPP
  unfold printC at HPR
  unfold printP at HPP
  unfold paV paCells at HPP
  unfold cmV cmCells at HPR HSS ⊢
  unfold cmCells at hW1 HK1
  have HW1 := Lib.hid hW1
  have HG1 := Lib.hid hg1
  have HK2 : Hid (∀ W, Below W1.heap.size W1 W → Blk W g1 29 #[.int .u8 (c.verb : Int), .string (bs c.arg), .bool c.path.null, .slice a1 c.path.route.length c1, .string (bs c.path.loc), .string (bs c.path.dom), .bool c.path.lit, .slice a2 c.params.length c2]) := fun W hW => hk1.below hW hk1.lt
  clear hW1 hg1 hb1 hk1 hi he hf hi1 he1 hbl
  obtain ⟨x0, x1, x2, x3, x4, x5, x6, x7⟩ := cells8 HK1.out
  have hv0 : (0 : Int) ≤ (c.verb : Int) := by omega
  have hv1 : (c.verb : Int) ≤ 255 := by omega
  cases hr : rightC c with
  | false =>
    rw [hr] at HPR
    rw [if_neg (by decide)] at HPR
    clear hr
    go_enter Tryz.func5, Tryz.ntmps5
    go_upto_region 1 with (fail)
    rw [← HW1.out, ← HG1.out]
    go_wp2_with (first | (go_at_call 8; refine (HPR.out _ (Below.refl _ _)).mono ?_; rintro e w3 ⟨rfl, hb⟩; have HB3 := Lib.hid hb; clear hb) | (go_at_call 10; refine (HAW.out _ HB3.out).mono ?_; rintro e w5 ⟨rfl, hb⟩; have HB5 := Lib.hid (low_trans HB3.out hb); clear hb))
    exact HQ.out _ (low_trans HL1.out HB5.out)
  | true =>
    rw [hr] at HPR
    rw [if_pos rfl] at HPR
    have hls : (bs (lineP c)).size = (lineP c).length := rfl
    have hln := (right_some hr).1
    have hwl : (wordP c.verb).length = 4 := (word_up (right_some hr).2.1 (right_some hr).2.2.1).2
    have hws : (bs (wordP c.verb)).size = 4 := hwl
    have hl4 : 4 ≤ (lineP c).length := by
      have e := (right_some hr).2.2.2.2
      rw [e, List.length_append, hwl]
      omega
    have hl4z : ¬ ((lineP c).length : Int) < 4 := by omega
    have hl4d : decide (((lineP c).length : Int) < 4) = false := decide_eq_false hl4z
    have hsl : ∀ W, (Instr.slice 9 (.string (bs (lineP c))) (some (.int .i64 4)) none none).run Tryz.prog W = .ok (.string (bs ((lineP c).drop 4))) W := fun W => str_from (lineP c) 4 hl4 W
    have hA1 := add_bs (trnD bl (wordP c.verb)) ((lineP c).drop 4) (by rw [trn_len, hwl, List.length_drop]; omega)
    have HT1 := Lib.hid (fun W hW => HTU.out (wordP c.verb) (by rw [hwl]; omega) W hW)
    have HD : Hid (∀ W, Below W1.heap.size W1 W → Below W1.heap.size W1 W.drew) := fun W h => ⟨h.os, h.tape, h.output, h.size, h.block⟩
    have hTw := turned_word hr (w := trnD bl (wordP c.verb)) (by rw [trn_up]; exact (word_up (right_some hr).2.1 (right_some hr).2.2.1).1)
    rw [hwl] at hTw
    by_cases h3 : c.verb = 3
    · have hz3 : ((c.verb : Int) == 3) = true := by rw [h3]; rfl
      have hvv : c.verb = 3 ∧ fromT = fromT ∨ c.verb = 4 ∧ fromT = toT := .inl ⟨h3, rfl⟩
      have k1 := (sent_some hvv hr).1
      have hend := caseT_end hvv hr bl
      have HCL := Lib.hid (fun k => caseT_len hvv hr bl k)
      have HST := Lib.hid (fun k hk => caseT_step bl fromT c k hk)
      rw [if_pos k1.right] at HPP
      have hA2 := add_bs (wordP c.verb) (32 :: fromT) (by rw [hwl]; decide)
      have e2 : bs (32 :: fromT) = (⟨#[32, 70, 82, 79, 77, 58]⟩ : ByteArray) := rfl
      rw [e2] at hA2
      have HT2 := Lib.hid (fun W hW => HTU.out (wordP c.verb ++ 32 :: fromT) (by rw [List.length_append, hwl]; decide) W hW)
      have hpl : (printD c.path).length ≤ 510 := by
        have h1 := HCL.out 0
        unfold caseT at h1
        rw [List.length_append, List.length_append] at h1
        omega
      have hA3 := add_bs (trnD bl (wordP c.verb ++ 32 :: fromT)) (printD c.path) (by
        have h1 := HCL.out 0
        unfold caseT at h1
        rw [List.length_append, List.length_append] at h1
        omega)
      have hst : trnD bl (wordP c.verb ++ 32 :: fromT) ++ printD c.path = caseT bl fromT c 0 := by
        unfold caseT
        simp [joinC]
      rw [hst] at hA3
      have HPF := Lib.hid (fun k (hk : k < c.params.length) => (⟨HCL.out (k + 1), HST.out k hk⟩ : (caseT bl fromT c (k + 1)).length ≤ 510 ∧ caseT bl fromT c (k + 1) = caseT bl fromT c k ++ trnD bl (32 :: c.params[k].key) ++ (if c.params[k].has = true then 61 :: c.params[k].value else [])))
      have hll : (caseT bl fromT c c.params.length).length = (lineP c).length := hend.2
      have HPB := Lib.hid (fun W (hW : Below W1.heap.size W1 W) => (cparse_any (caseT bl fromT c c.params.length) (by omega) W (HE.out W hW)).mono fun _ _ hh => hh.in_)
      rw [hend.1] at HPB
      unfold cmV cmCells at HPB
      have hls2 : (bs (caseT bl fromT c c.params.length)).size = (lineP c).length := hll
      clear k1 hend hst hpl e2 hTw hr hvv h3
      generalize bs ((lineP c).drop 4) = S4 at *
      generalize bs (trnD bl (wordP c.verb) ++ (lineP c).drop 4) = S5 at *
      generalize bs (trnD bl (wordP c.verb)) = S6 at *
      generalize bs (trnD bl (wordP c.verb ++ 32 :: fromT)) = S7 at *
      generalize bs (wordP c.verb ++ 32 :: fromT) = S8 at *
      generalize bs (printD c.path) = S9 at *
      generalize (lineP c).length = ln at *
      generalize bs (lineP c) = S at *
      obtain ⟨n, hn⟩ : ∃ n, n = c.params.length := ⟨_, rfl⟩
      have HN := Lib.hid hn
      rw [← hn] at HPB hls2 hll HPR HSS HK2 HK1 HW1 x7 ⊢
      have hnb : (n : Int) ≤ 4611686018427387904 := by
        have h1 := (HPI.out W1 (Below.refl _ _)).len
        rw [pmFlat_len] at h1
        unfold maxLen at h1
        omega
      clear hn
      go_enter Tryz.func5, Tryz.ntmps5
      go_upto_region 1 with (fail)
      rw [← HW1.out, ← HG1.out]
      go_upto_region 7 with (first | (go_at_call 8; refine (HPR.out _ (Below.refl _ _)).mono ?_; rintro e w3 ⟨rfl, hb⟩; have HB3 := Lib.hid hb; clear hb x0 x1 x2 x3 x4 x5 x6 x7; obtain ⟨x0, x1, x2, x3, x4, x5, x6, x7⟩ := cells8 (HK2.out _ HB3.out)) | (go_at_call 14; refine (HWO.out _ HB3.out).mono ?_; rintro e w4 ⟨rfl, rfl⟩))
      go_region_law (first | (go_simp; go_at_call 15; refine (HT1.out _ (HD.out _ HB3.out)).mono ?_; rintro e w5 ⟨rfl, hb⟩; have HB5 := Lib.hid (low_trans (HD.out _ HB3.out) hb); clear hb x0 x1 x2 x3 x4 x5 x6 x7; obtain ⟨x0, x1, x2, x3, x4, x5, x6, x7⟩ := cells8 (HK2.out _ HB5.out)))
      all_goals
        go_upto_region 16 with (first | (go_at_call 16; refine (HPP.out _ HB5.out).mono ?_; rintro e w6 ⟨rfl, hb⟩; have HB6 := Lib.hid (low_trans HB5.out hb); clear hb x0 x1 x2 x3 x4 x5 x6 x7; obtain ⟨x0, x1, x2, x3, x4, x5, x6, x7⟩ := cells8 (HK2.out _ HB6.out)) | (go_at_call 15; refine (HT2.out _ HB6.out).mono ?_; rintro e w7 ⟨rfl, hb⟩; have HB7 := Lib.hid (low_trans HB6.out hb); clear hb x0 x1 x2 x3 x4 x5 x6 x7; obtain ⟨x0, x1, x2, x3, x4, x5, x6, x7⟩ := cells8 (HK2.out _ HB7.out)))
        clear HPP HT1 HT2 HPR HWO hA1 hA2 hA3 hsl
        go_wp2
        clear x0 x1 x2 x3 x4 x5 x6 x7
        go_loopw [8, 69] (fun v i wr => ∃ (k : Nat) (L : List UInt8), k ≤ n ∧ i = .int .i64 (k : Int) ∧ v = .string (bs L) ∧ Hid (L = caseT bl fromT c k) ∧ Hid (Below W1.heap.size W1 wr)) (fun _ i _ => n - (intOf i).toNat)
        case atStart => exact ⟨0, _, Nat.zero_le _, rfl, rfl, rfl, HB7.out⟩
        case round =>
          as_aux_lemma =>
            clear HB7 HB6 HB5
            obtain ⟨k, L, hk, rfl, rfl, HL, HB⟩ := hrel
            have hk0 : (0 : Int) ≤ (k : Int) := by omega
            by_cases hlt : k < n
            · have hkl : k < c.params.length := by rw [← HN.out]; exact hlt
              have hkz : (k : Int) < (n : Int) := by omega
              obtain ⟨b, o, rfl, q0, q1, q2⟩ := PmsAt.at_ (HPI.out wr HB.out) hkl
              obtain ⟨hlen, hstep⟩ := HPF.out k hkl
              have HST2 := Lib.hid hstep
              have HLN := Lib.hid hlen
              rw [← HL.out] at HST2
              clear hlen hstep
              generalize c.params[k] = q at *
              obtain ⟨qk, qv, qh⟩ := q
              clear hkl HL HPF HST HCL
              simp only at q0 q1 q2 HST2
              have hbnd : L.length + (32 :: qk).length + (if qh = true then 61 :: qv else []).length ≤ 510 := by
                have h1 := HLN.out
                rw [HST2.out, List.length_append, List.length_append, trn_len] at h1
                exact h1
              have HT3 := Lib.hid (fun W hW => HTU.out (32 :: qk) (by omega) W hW)
              have hB1 := add_bs [32] qk (by rw [List.length_cons] at hbnd; simp; omega)
              have hB2 := add_bs L (trnD bl (32 :: qk)) (by rw [trn_len]; omega)
              have e32 : (⟨#[32]⟩ : ByteArray) = bs [32] := rfl
              have e33 : [32] ++ qk = 32 :: qk := rfl
              rw [← e32, e33] at hB1
              clear e32 e33
              go_upto_region 19 with (fail)
              obtain ⟨W5, hW5⟩ : ∃ W5, W5 = wr.alloc (.cells #[.string (bs qk), .string (bs qv), .bool qh] 45) := ⟨_, rfl⟩
              obtain ⟨g5, hg5⟩ : ∃ g5, g5 = wr.heap.size := ⟨_, rfl⟩
              have HK5 : Hid (Blk W5 g5 45 #[.string (bs qk), .string (bs qv), .bool qh]) := by rw [hW5, hg5]; exact Blk.new _ _ _
              have HB5 : Hid (Below W1.heap.size W1 W5) := by rw [hW5]; exact HB.out.alloc HB.out.size _
              rw [← hW5, ← hg5]
              clear hW5 hg5 q0 q1 q2
              have HY5 : Hid (∀ W, Below W5.heap.size W5 W → W.cell? ⟨g5, 0, none⟩ = some (.string (bs qk)) ∧ W.cell? ⟨g5, 1, none⟩ = some (.string (bs qv)) ∧ W.cell? ⟨g5, 2, none⟩ = some (.bool qh)) := fun W hW => by
                have h := HK5.out.below hW HK5.out.lt
                exact ⟨h.cell 0, h.cell 1, h.cell 2⟩
              obtain ⟨v0, v1, v2⟩ := HY5.out W5 (Below.refl _ _)
              cases qh with
              | false =>
                have HNX : Hid (L ++ trnD bl (32 :: qk) = caseT bl fromT c (k + 1)) := by
                  show _ = _
                  rw [HST2.out]
                  simp
                clear HST2 HLN hbnd
                generalize trnD bl (32 :: qk) = TK at *
                go_wp2_with (go_at_call 15; refine (HT3.out _ HB5.out).mono ?_; rintro e w6 ⟨rfl, hb⟩; have HB6 := Lib.hid (low_trans HB5.out hb); obtain ⟨u0, u1, u2⟩ := HY5.out w6 hb; clear hb v0 v1 v2)
                go_roundw
                case rel => exact ⟨k + 1, L ++ TK, by omega, by go_num, rfl, HNX.out, HB6.out⟩
                case measure => simp [intOf]; omega
              | true =>
                have HNX : Hid (L ++ trnD bl (32 :: qk) ++ (61 :: qv) = caseT bl fromT c (k + 1)) := by
                  show _ = _
                  rw [HST2.out]
                  simp
                have hbn2 : L.length + (qk.length + 1) + (qv.length + 1) ≤ 510 := by simpa using hbnd
                have hB3 := add_bs [61] qv (by simp; omega)
                have hB4 := add_bs (L ++ trnD bl (32 :: qk)) (61 :: qv) (by rw [List.length_append, trn_len]; simp; omega)
                have e61 : (⟨#[61]⟩ : ByteArray) = bs [61] := rfl
                have e62 : [61] ++ qv = 61 :: qv := rfl
                rw [← e61, e62] at hB3
                clear e61 e62 HST2 HLN hbnd hbn2
                generalize trnD bl (32 :: qk) = TK at *
                generalize hM : (61 :: qv : List UInt8) = VV at *
                clear hM
                go_wp2_with (go_at_call 15; refine (HT3.out _ HB5.out).mono ?_; rintro e w6 ⟨rfl, hb⟩; have HB6 := Lib.hid (low_trans HB5.out hb); obtain ⟨u0, u1, u2⟩ := HY5.out w6 hb; clear hb v0 v1 v2)
                go_roundw
                case rel => exact ⟨k + 1, L ++ TK ++ VV, by omega, by go_num, by rw [List.append_assoc], HNX.out, HB6.out⟩
                case measure => simp [intOf]; omega
            · have hke : k = n := by omega
              have hkz : ¬ (k : Int) < (n : Int) := by omega
              have HLE : Hid (L = caseT bl fromT c n) := by
                have h1 := HL.out
                rw [hke] at h1
                exact h1
              clear hke HL HPF HST HCL
              rw [HLE.out]
              generalize bs (caseT bl fromT c n) = SS at *
              go_upto_region 24 with (go_at_call 11; refine (HPB.out _ HB.out).mono ?_; rintro e w8 ⟨b1, d1, b2, d2, rfl, hi, hb⟩; have HB8 := Lib.hid (low_trans HB.out hb); have HI8 := Lib.hid hi; clear hb hi)
              change Code.wp _ _ _ _ (World.alloc w8 (.cells #[.int .u8 (c.verb : Int), .string (bs c.arg), .bool c.path.null, .slice b1 c.path.route.length d1, .string (bs c.path.loc), .string (bs c.path.dom), .bool c.path.lit, .slice b2 n d2] 29))
              obtain ⟨W9, hW9⟩ : ∃ W9, W9 = w8.alloc (.cells #[.int .u8 (c.verb : Int), .string (bs c.arg), .bool c.path.null, .slice b1 c.path.route.length d1, .string (bs c.path.loc), .string (bs c.path.dom), .bool c.path.lit, .slice b2 n d2] 29) := ⟨_, rfl⟩
              obtain ⟨g9, hg9⟩ : ∃ g, g = w8.heap.size := ⟨_, rfl⟩
              have HK9 : Hid (Blk W9 g9 29 #[.int .u8 (c.verb : Int), .string (bs c.arg), .bool c.path.null, .slice b1 c.path.route.length d1, .string (bs c.path.loc), .string (bs c.path.dom), .bool c.path.lit, .slice b2 n d2]) := by rw [hW9, hg9]; exact Blk.new _ _ _
              have HB9 : Hid (Below W1.heap.size W1 W9) := by rw [hW9]; exact HB8.out.alloc HB8.out.size _
              have HI9 : Hid (CmIn W9 c b1 d1 b2) := by rw [hW9]; exact HI8.out.below ((Below.refl _ w8).alloc (Nat.le_refl _) _)
              rw [← hW9, ← hg9]
              clear hW9 hg9
              obtain ⟨x0, x1, x2, x3, x4, x5, x6, x7⟩ := cells8 (HK2.out _ HB9.out)
              obtain ⟨y0, y1, y2, y3, y4, y5, y6, y7⟩ := cells8 HK9.out
              have HSM := Lib.hid (HSS.out W9 b1 b2 d1 d2 HB9.out HI9.out.route HI9.out.pms)
              go_wp2_with (first | (go_at_call 12; refine HSM.out.mono ?_; rintro e wA ⟨rfl, hb⟩; have HBA := Lib.hid (low_trans HB9.out hb); clear hb) | (go_at_call 10; refine (HAW.out _ HBA.out).mono ?_; rintro e wB ⟨rfl, hb⟩; have HBB := Lib.hid (low_trans HBA.out hb); clear hb))
              exact HQ.out _ (low_trans HL1.out HBB.out)
    · have hz3 : ((c.verb : Int) == 3) = false := by
        rw [beq_eq_false_iff_ne]
        omega
      by_cases h4 : c.verb = 4
      · have hz4 : ((c.verb : Int) == 4) = true := by rw [h4]; rfl
        have hvv : c.verb = 3 ∧ toT = fromT ∨ c.verb = 4 ∧ toT = toT := .inr ⟨h4, rfl⟩
        have k1 := (sent_some hvv hr).1
        have hend := caseT_end hvv hr bl
        have HCL := Lib.hid (fun k => caseT_len hvv hr bl k)
        have HST := Lib.hid (fun k hk => caseT_step bl toT c k hk)
        rw [if_pos k1.right] at HPP
        have hA2 := add_bs (wordP c.verb) (32 :: toT) (by rw [hwl]; decide)
        have e2 : bs (32 :: toT) = (⟨#[32, 84, 79, 58]⟩ : ByteArray) := rfl
        rw [e2] at hA2
        have HT2 := Lib.hid (fun W hW => HTU.out (wordP c.verb ++ 32 :: toT) (by rw [List.length_append, hwl]; decide) W hW)
        have hpl : (printD c.path).length ≤ 510 := by
          have h1 := HCL.out 0
          unfold caseT at h1
          rw [List.length_append, List.length_append] at h1
          omega
        have hA3 := add_bs (trnD bl (wordP c.verb ++ 32 :: toT)) (printD c.path) (by
          have h1 := HCL.out 0
          unfold caseT at h1
          rw [List.length_append, List.length_append] at h1
          omega)
        have hst : trnD bl (wordP c.verb ++ 32 :: toT) ++ printD c.path = caseT bl toT c 0 := by
          unfold caseT
          simp [joinC]
        rw [hst] at hA3
        have HPF := Lib.hid (fun k (hk : k < c.params.length) => (⟨HCL.out (k + 1), HST.out k hk⟩ : (caseT bl toT c (k + 1)).length ≤ 510 ∧ caseT bl toT c (k + 1) = caseT bl toT c k ++ trnD bl (32 :: c.params[k].key) ++ (if c.params[k].has = true then 61 :: c.params[k].value else [])))
        have hll : (caseT bl toT c c.params.length).length = (lineP c).length := hend.2
        have HPB := Lib.hid (fun W (hW : Below W1.heap.size W1 W) => (cparse_any (caseT bl toT c c.params.length) (by omega) W (HE.out W hW)).mono fun _ _ hh => hh.in_)
        rw [hend.1] at HPB
        unfold cmV cmCells at HPB
        have hls2 : (bs (caseT bl toT c c.params.length)).size = (lineP c).length := hll
        clear k1 hend hst hpl e2 hTw hr hvv h3 h4
        generalize bs ((lineP c).drop 4) = S4 at *
        generalize bs (trnD bl (wordP c.verb) ++ (lineP c).drop 4) = S5 at *
        generalize bs (trnD bl (wordP c.verb)) = S6 at *
        generalize bs (trnD bl (wordP c.verb ++ 32 :: toT)) = S7 at *
        generalize bs (wordP c.verb ++ 32 :: toT) = S8 at *
        generalize bs (printD c.path) = S9 at *
        generalize (lineP c).length = ln at *
        generalize bs (lineP c) = S at *
        obtain ⟨n, hn⟩ : ∃ n, n = c.params.length := ⟨_, rfl⟩
        have HN := Lib.hid hn
        rw [← hn] at HPB hls2 hll HPR HSS HK2 HK1 HW1 x7 ⊢
        have hnb : (n : Int) ≤ 4611686018427387904 := by
          have h1 := (HPI.out W1 (Below.refl _ _)).len
          rw [pmFlat_len] at h1
          unfold maxLen at h1
          omega
        clear hn
        go_enter Tryz.func5, Tryz.ntmps5
        go_upto_region 1 with (fail)
        rw [← HW1.out, ← HG1.out]
        go_upto_region 7 with (first | (go_at_call 8; refine (HPR.out _ (Below.refl _ _)).mono ?_; rintro e w3 ⟨rfl, hb⟩; have HB3 := Lib.hid hb; clear hb x0 x1 x2 x3 x4 x5 x6 x7; obtain ⟨x0, x1, x2, x3, x4, x5, x6, x7⟩ := cells8 (HK2.out _ HB3.out)) | (go_at_call 14; refine (HWO.out _ HB3.out).mono ?_; rintro e w4 ⟨rfl, rfl⟩))
        go_region_law (first | (go_simp; go_at_call 15; refine (HT1.out _ (HD.out _ HB3.out)).mono ?_; rintro e w5 ⟨rfl, hb⟩; have HB5 := Lib.hid (low_trans (HD.out _ HB3.out) hb); clear hb x0 x1 x2 x3 x4 x5 x6 x7; obtain ⟨x0, x1, x2, x3, x4, x5, x6, x7⟩ := cells8 (HK2.out _ HB5.out)))
        all_goals
          go_upto_region 16 with (first | (go_at_call 16; refine (HPP.out _ HB5.out).mono ?_; rintro e w6 ⟨rfl, hb⟩; have HB6 := Lib.hid (low_trans HB5.out hb); clear hb x0 x1 x2 x3 x4 x5 x6 x7; obtain ⟨x0, x1, x2, x3, x4, x5, x6, x7⟩ := cells8 (HK2.out _ HB6.out)) | (go_at_call 15; refine (HT2.out _ HB6.out).mono ?_; rintro e w7 ⟨rfl, hb⟩; have HB7 := Lib.hid (low_trans HB6.out hb); clear hb x0 x1 x2 x3 x4 x5 x6 x7; obtain ⟨x0, x1, x2, x3, x4, x5, x6, x7⟩ := cells8 (HK2.out _ HB7.out)))
          clear HPP HT1 HT2 HPR HWO hA1 hA2 hA3 hsl
          go_wp2
          clear x0 x1 x2 x3 x4 x5 x6 x7
          go_loopw [8, 69] (fun v i wr => ∃ (k : Nat) (L : List UInt8), k ≤ n ∧ i = .int .i64 (k : Int) ∧ v = .string (bs L) ∧ Hid (L = caseT bl toT c k) ∧ Hid (Below W1.heap.size W1 wr)) (fun _ i _ => n - (intOf i).toNat)
          case atStart => exact ⟨0, _, Nat.zero_le _, rfl, rfl, rfl, HB7.out⟩
          case round =>
            as_aux_lemma =>
              clear HB7 HB6 HB5
              obtain ⟨k, L, hk, rfl, rfl, HL, HB⟩ := hrel
              have hk0 : (0 : Int) ≤ (k : Int) := by omega
              by_cases hlt : k < n
              · have hkl : k < c.params.length := by rw [← HN.out]; exact hlt
                have hkz : (k : Int) < (n : Int) := by omega
                obtain ⟨b, o, rfl, q0, q1, q2⟩ := PmsAt.at_ (HPI.out wr HB.out) hkl
                obtain ⟨hlen, hstep⟩ := HPF.out k hkl
                have HST2 := Lib.hid hstep
                have HLN := Lib.hid hlen
                rw [← HL.out] at HST2
                clear hlen hstep
                generalize c.params[k] = q at *
                obtain ⟨qk, qv, qh⟩ := q
                clear hkl HL HPF HST HCL
                simp only at q0 q1 q2 HST2
                have hbnd : L.length + (32 :: qk).length + (if qh = true then 61 :: qv else []).length ≤ 510 := by
                  have h1 := HLN.out
                  rw [HST2.out, List.length_append, List.length_append, trn_len] at h1
                  exact h1
                have HT3 := Lib.hid (fun W hW => HTU.out (32 :: qk) (by omega) W hW)
                have hB1 := add_bs [32] qk (by rw [List.length_cons] at hbnd; simp; omega)
                have hB2 := add_bs L (trnD bl (32 :: qk)) (by rw [trn_len]; omega)
                have e32 : (⟨#[32]⟩ : ByteArray) = bs [32] := rfl
                have e33 : [32] ++ qk = 32 :: qk := rfl
                rw [← e32, e33] at hB1
                clear e32 e33
                go_upto_region 19 with (fail)
                obtain ⟨W5, hW5⟩ : ∃ W5, W5 = wr.alloc (.cells #[.string (bs qk), .string (bs qv), .bool qh] 45) := ⟨_, rfl⟩
                obtain ⟨g5, hg5⟩ : ∃ g5, g5 = wr.heap.size := ⟨_, rfl⟩
                have HK5 : Hid (Blk W5 g5 45 #[.string (bs qk), .string (bs qv), .bool qh]) := by rw [hW5, hg5]; exact Blk.new _ _ _
                have HB5 : Hid (Below W1.heap.size W1 W5) := by rw [hW5]; exact HB.out.alloc HB.out.size _
                rw [← hW5, ← hg5]
                clear hW5 hg5 q0 q1 q2
                have HY5 : Hid (∀ W, Below W5.heap.size W5 W → W.cell? ⟨g5, 0, none⟩ = some (.string (bs qk)) ∧ W.cell? ⟨g5, 1, none⟩ = some (.string (bs qv)) ∧ W.cell? ⟨g5, 2, none⟩ = some (.bool qh)) := fun W hW => by
                  have h := HK5.out.below hW HK5.out.lt
                  exact ⟨h.cell 0, h.cell 1, h.cell 2⟩
                obtain ⟨v0, v1, v2⟩ := HY5.out W5 (Below.refl _ _)
                cases qh with
                | false =>
                  have HNX : Hid (L ++ trnD bl (32 :: qk) = caseT bl toT c (k + 1)) := by
                    show _ = _
                    rw [HST2.out]
                    simp
                  clear HST2 HLN hbnd
                  generalize trnD bl (32 :: qk) = TK at *
                  go_wp2_with (go_at_call 15; refine (HT3.out _ HB5.out).mono ?_; rintro e w6 ⟨rfl, hb⟩; have HB6 := Lib.hid (low_trans HB5.out hb); obtain ⟨u0, u1, u2⟩ := HY5.out w6 hb; clear hb v0 v1 v2)
                  go_roundw
                  case rel => exact ⟨k + 1, L ++ TK, by omega, by go_num, rfl, HNX.out, HB6.out⟩
                  case measure => simp [intOf]; omega
                | true =>
                  have HNX : Hid (L ++ trnD bl (32 :: qk) ++ (61 :: qv) = caseT bl toT c (k + 1)) := by
                    show _ = _
                    rw [HST2.out]
                    simp
                  have hbn2 : L.length + (qk.length + 1) + (qv.length + 1) ≤ 510 := by simpa using hbnd
                  have hB3 := add_bs [61] qv (by simp; omega)
                  have hB4 := add_bs (L ++ trnD bl (32 :: qk)) (61 :: qv) (by rw [List.length_append, trn_len]; simp; omega)
                  have e61 : (⟨#[61]⟩ : ByteArray) = bs [61] := rfl
                  have e62 : [61] ++ qv = 61 :: qv := rfl
                  rw [← e61, e62] at hB3
                  clear e61 e62 HST2 HLN hbnd hbn2
                  generalize trnD bl (32 :: qk) = TK at *
                  generalize hM : (61 :: qv : List UInt8) = VV at *
                  clear hM
                  go_wp2_with (go_at_call 15; refine (HT3.out _ HB5.out).mono ?_; rintro e w6 ⟨rfl, hb⟩; have HB6 := Lib.hid (low_trans HB5.out hb); obtain ⟨u0, u1, u2⟩ := HY5.out w6 hb; clear hb v0 v1 v2)
                  go_roundw
                  case rel => exact ⟨k + 1, L ++ TK ++ VV, by omega, by go_num, by rw [List.append_assoc], HNX.out, HB6.out⟩
                  case measure => simp [intOf]; omega
              · have hke : k = n := by omega
                have hkz : ¬ (k : Int) < (n : Int) := by omega
                have HLE : Hid (L = caseT bl toT c n) := by
                  have h1 := HL.out
                  rw [hke] at h1
                  exact h1
                clear hke HL HPF HST HCL
                rw [HLE.out]
                generalize bs (caseT bl toT c n) = SS at *
                go_upto_region 24 with (go_at_call 11; refine (HPB.out _ HB.out).mono ?_; rintro e w8 ⟨b1, d1, b2, d2, rfl, hi, hb⟩; have HB8 := Lib.hid (low_trans HB.out hb); have HI8 := Lib.hid hi; clear hb hi)
                change Code.wp _ _ _ _ (World.alloc w8 (.cells #[.int .u8 (c.verb : Int), .string (bs c.arg), .bool c.path.null, .slice b1 c.path.route.length d1, .string (bs c.path.loc), .string (bs c.path.dom), .bool c.path.lit, .slice b2 n d2] 29))
                obtain ⟨W9, hW9⟩ : ∃ W9, W9 = w8.alloc (.cells #[.int .u8 (c.verb : Int), .string (bs c.arg), .bool c.path.null, .slice b1 c.path.route.length d1, .string (bs c.path.loc), .string (bs c.path.dom), .bool c.path.lit, .slice b2 n d2] 29) := ⟨_, rfl⟩
                obtain ⟨g9, hg9⟩ : ∃ g, g = w8.heap.size := ⟨_, rfl⟩
                have HK9 : Hid (Blk W9 g9 29 #[.int .u8 (c.verb : Int), .string (bs c.arg), .bool c.path.null, .slice b1 c.path.route.length d1, .string (bs c.path.loc), .string (bs c.path.dom), .bool c.path.lit, .slice b2 n d2]) := by rw [hW9, hg9]; exact Blk.new _ _ _
                have HB9 : Hid (Below W1.heap.size W1 W9) := by rw [hW9]; exact HB8.out.alloc HB8.out.size _
                have HI9 : Hid (CmIn W9 c b1 d1 b2) := by rw [hW9]; exact HI8.out.below ((Below.refl _ w8).alloc (Nat.le_refl _) _)
                rw [← hW9, ← hg9]
                clear hW9 hg9
                obtain ⟨x0, x1, x2, x3, x4, x5, x6, x7⟩ := cells8 (HK2.out _ HB9.out)
                obtain ⟨y0, y1, y2, y3, y4, y5, y6, y7⟩ := cells8 HK9.out
                have HSM := Lib.hid (HSS.out W9 b1 b2 d1 d2 HB9.out HI9.out.route HI9.out.pms)
                go_wp2_with (first | (go_at_call 12; refine HSM.out.mono ?_; rintro e wA ⟨rfl, hb⟩; have HBA := Lib.hid (low_trans HB9.out hb); clear hb) | (go_at_call 10; refine (HAW.out _ HBA.out).mono ?_; rintro e wB ⟨rfl, hb⟩; have HBB := Lib.hid (low_trans HBA.out hb); clear hb))
                exact HQ.out _ (low_trans HL1.out HBB.out)
      · have hz4 : ((c.verb : Int) == 4) = false := by
          rw [beq_eq_false_iff_ne]
          omega
        have HPB := Lib.hid (fun W (hW : Below W1.heap.size W1 W) => (cparse_any (trnD bl (wordP c.verb) ++ (lineP c).drop 4) (by omega) W (HE.out W hW)).mono fun _ _ hh => hh.in_)
        rw [hTw.1] at HPB
        unfold cmV cmCells at HPB
        have hls2 : (bs (trnD bl (wordP c.verb) ++ (lineP c).drop 4)).size = (lineP c).length := hTw.2
        clear hTw hr HPP h3 h4 HTU
        generalize bs ((lineP c).drop 4) = S4 at *
        generalize bs (trnD bl (wordP c.verb) ++ (lineP c).drop 4) = S5 at *
        generalize bs (trnD bl (wordP c.verb)) = S6 at *
        generalize (lineP c).length = ln at *
        generalize bs (lineP c) = S at *
        go_enter Tryz.func5, Tryz.ntmps5
        go_upto_region 1 with (fail)
        rw [← HW1.out, ← HG1.out]
        go_upto_region 7 with (first | (go_at_call 8; refine (HPR.out _ (Below.refl _ _)).mono ?_; rintro e w3 ⟨rfl, hb⟩; have HB3 := Lib.hid hb; clear hb x0 x1 x2 x3 x4 x5 x6 x7; obtain ⟨x0, x1, x2, x3, x4, x5, x6, x7⟩ := cells8 (HK2.out _ HB3.out)) | (go_at_call 14; refine (HWO.out _ HB3.out).mono ?_; rintro e w4 ⟨rfl, rfl⟩))
        go_region_law (first | (go_simp; go_at_call 15; refine (HT1.out _ (HD.out _ HB3.out)).mono ?_; rintro e w5 ⟨rfl, hb⟩; have HB5 := Lib.hid (low_trans (HD.out _ HB3.out) hb); clear hb x0 x1 x2 x3 x4 x5 x6 x7; obtain ⟨x0, x1, x2, x3, x4, x5, x6, x7⟩ := cells8 (HK2.out _ HB5.out)))
        all_goals
          go_upto_region 24 with (go_at_call 11; refine (HPB.out _ HB5.out).mono ?_; rintro e w8 ⟨b1, d1, b2, d2, rfl, hi, hb⟩; have HB8 := Lib.hid (low_trans HB5.out hb); have HI8 := Lib.hid hi; clear hb hi)
          change Code.wp _ _ _ _ (World.alloc w8 (.cells #[.int .u8 (c.verb : Int), .string (bs c.arg), .bool c.path.null, .slice b1 c.path.route.length d1, .string (bs c.path.loc), .string (bs c.path.dom), .bool c.path.lit, .slice b2 c.params.length d2] 29))
          obtain ⟨W9, hW9⟩ : ∃ W9, W9 = w8.alloc (.cells #[.int .u8 (c.verb : Int), .string (bs c.arg), .bool c.path.null, .slice b1 c.path.route.length d1, .string (bs c.path.loc), .string (bs c.path.dom), .bool c.path.lit, .slice b2 c.params.length d2] 29) := ⟨_, rfl⟩
          obtain ⟨g9, hg9⟩ : ∃ g, g = w8.heap.size := ⟨_, rfl⟩
          have HK9 : Hid (Blk W9 g9 29 #[.int .u8 (c.verb : Int), .string (bs c.arg), .bool c.path.null, .slice b1 c.path.route.length d1, .string (bs c.path.loc), .string (bs c.path.dom), .bool c.path.lit, .slice b2 c.params.length d2]) := by rw [hW9, hg9]; exact Blk.new _ _ _
          have HB9 : Hid (Below W1.heap.size W1 W9) := by rw [hW9]; exact HB8.out.alloc HB8.out.size _
          have HI9 : Hid (CmIn W9 c b1 d1 b2) := by rw [hW9]; exact HI8.out.below ((Below.refl _ w8).alloc (Nat.le_refl _) _)
          rw [← hW9, ← hg9]
          clear hW9 hg9
          obtain ⟨x0, x1, x2, x3, x4, x5, x6, x7⟩ := cells8 (HK2.out _ HB9.out)
          obtain ⟨y0, y1, y2, y3, y4, y5, y6, y7⟩ := cells8 HK9.out
          have HSM := Lib.hid (HSS.out W9 b1 b2 d1 d2 HB9.out HI9.out.route HI9.out.pms)
          go_wp2_with (first | (go_at_call 12; refine HSM.out.mono ?_; rintro e wA ⟨rfl, hb⟩; have HBA := Lib.hid (low_trans HB9.out hb); clear hb) | (go_at_call 10; refine (HAW.out _ HBA.out).mono ?_; rintro e wB ⟨rfl, hb⟩; have HBB := Lib.hid (low_trans HBA.out hb); clear hb))
          exact HQ.out _ (low_trans HL1.out HBB.out)
end Go.Proofs.YtnkepdeegpampaaGreatDoor

/-
  A path that came in lies in memory, and its texts are no longer than the reading's bulk. No conditions.
-/
namespace Go.Proofs.YtnkepdeegpampaaGreatDoor
open Go.ChangeShapes Go.RowKit
variable {H : Type} {enc : TypeId × Value → H} {W : World} {fuel : Nat}

theorem zBool : Tryz.prog.cellsOf 4 = 1 := by kernel_rfl
theorem zString : Tryz.prog.cellsOf 9 = 1 := by kernel_rfl
theorem zStrings : Tryz.prog.cellsOf 22 = 1 := by kernel_rfl
theorem zBox : Tryz.prog.cellsOf 24 = 3 := by kernel_rfl
theorem zPath : Tryz.prog.cellsOf 26 = 5 := by kernel_rfl
theorem of3 {α : Type} (l : List α) (h : l.length = 3) : ∃ a0 a1 a2, l = [a0, a1, a2] := by
  match l, h with
  | [a0, a1, a2], _ => exact ⟨a0, a1, a2, rfl⟩
theorem of5 {α : Type} (l : List α) (h : l.length = 5) : ∃ a0 a1 a2 a3 a4, l = [a0, a1, a2, a3, a4] := by
  match l, h with
  | [a0, a1, a2, a3, a4], _ => exact ⟨a0, a1, a2, a3, a4, rfl⟩
theorem bulk_of : ∀ (ds : List (DataW H)) (i : Nat) (d : DataW H), ds[i]? = some d → Rows.uptoBulk d ≤ Rows.uptoBulkAll ds
  | [], i, d, h => by simp at h
  | e :: r, 0, d, h => by
    have : e = d := by simpa using h
    subst this
    rw [Rows.uptoBulkAll]
    omega
  | e :: r, i + 1, d, h => by
    have := bulk_of r i d (by simpa using h)
    rw [Rows.uptoBulkAll]
    omega
theorem open_textsB {cs : List Value} {x : DataW H × List MemPlace} (h : DataW.trod enc Tryz.prog W 0 (fun _ => true) true fuel 22 cs = some x) : ∃ a c l, cs = [.slice a (List.length l) c] ∧ TextsAt W a l ∧ l.length ≤ c ∧ ∀ s ∈ l, s.length ≤ Rows.uptoBulk x.1 := by
  rcases DataW.trod_slice Tryz.underlying22 h with ⟨hn, rfl⟩ | ⟨a, len, cap, elems, rest, m, rfl, hcs, rfl, hb, hl, hm, hlen, hel, _, _⟩
  · exact ⟨none, 0, [], hn, ⟨by decide, fun h => absurd h (by decide)⟩, Nat.le_refl _, fun s hs => (by cases hs)⟩
  · have each : ∀ i : Nat, ∃ s : ByteArray, i < len → W.cell? (a.add i) = some (.string s) ∧ ∃ y, elems[i]? = some y ∧ y.1 = .lit (.string s.data.toList) := fun i => by
      by_cases hi : i < len
      · have he := hel i hi
        rw [List.getElem?_eq_getElem (by omega), zString, Option.bind_eq_some_iff] at he
        obtain ⟨cs', hc', ht'⟩ := he
        obtain ⟨s, rfl, e2, _⟩ := DataW.trod_string Tryz.underlying9 ht'
        obtain ⟨_, _, hcell⟩ := World.cells?_some hc'
        have h0 := hcell 0 (by omega)
        refine ⟨s, fun _ => ⟨?_, _, List.getElem?_eq_getElem (by omega), by rw [e2]⟩⟩
        rw [Nat.mul_one] at h0
        have e : (a.add i).add 0 = a.add i := by unfold Addr.add; split <;> simp_all
        rw [e] at h0
        rw [h0]
        rfl
      · exact ⟨.empty, fun h => absurd h hi⟩
    obtain ⟨f, hf⟩ := Classical.axiomOfChoice each
    have hkl : ((List.range len).map fun i => (f i).data.toList).length = len := by simp
    refine ⟨some a, cap, (List.range len).map fun i => (f i).data.toList, by rw [hkl]; exact hcs, row_of a _ (by rw [List.length_map, hkl]; omega) fun i hi => ?_, by rw [hkl]; exact hl, fun s hs => ?_⟩
    · rw [List.length_map, hkl] at hi
      rw [(hf i hi).1, List.getElem_map, List.getElem_map, List.getElem_range]
      rfl
    · obtain ⟨i, hi, rfl⟩ := List.mem_map.1 hs
      have hi := List.mem_range.1 hi
      obtain ⟨_, y, h1, h2⟩ := hf i hi
      have := bulk_of (elems.map (·.1)) i y.1 (by rw [List.getElem?_map, h1]; rfl)
      rw [h2, Rows.uptoBulk] at this
      show _ ≤ Rows.uptoBulkAll (elems.map (·.1)) + Rows.uptoBulkAll (rest.map (·.1)) + 1
      omega
set_option maxRecDepth 100000 in
theorem open_box {cs : List Value} {x : DataW H × List MemPlace} (h : DataW.trod enc Tryz.prog W 0 (fun _ => true) true fuel 24 cs = some x) : ∃ (loc d : List UInt8) (lit : Bool), cs = [.string (bs loc), .string (bs d), .bool lit] ∧ loc.length ≤ Rows.uptoBulk x.1 ∧ d.length ≤ Rows.uptoBulk x.1 := by
  obtain ⟨xs, n, rfl, rfl, hl, hlen, hf⟩ := DataW.trod_struct Tryz.underlying24 h
  rw [zBox] at hl
  have hlen : xs.length = 3 := hlen
  obtain ⟨c0, c1, c2, rfl⟩ := of3 cs hl
  obtain ⟨y0, y1, y2, rfl⟩ := of3 xs hlen
  have h0 : DataW.trod enc Tryz.prog W 0 (fun _ => true) true n 9 (([c0, c1, c2].drop 0).take (Tryz.prog.cellsOf 9)) = some y0 := hf 0 _ rfl
  have h1 : DataW.trod enc Tryz.prog W 0 (fun _ => true) true n 9 (([c0, c1, c2].drop 1).take (Tryz.prog.cellsOf 9)) = some y1 := hf 1 _ rfl
  have h2 : DataW.trod enc Tryz.prog W 0 (fun _ => true) true n 4 (([c0, c1, c2].drop 2).take (Tryz.prog.cellsOf 4)) = some y2 := hf 2 _ rfl
  rw [zString] at h0 h1
  rw [zBool] at h2
  obtain ⟨s0, e0, rfl, _⟩ := DataW.trod_string Tryz.underlying9 h0
  obtain ⟨s1, e1, rfl, _⟩ := DataW.trod_string Tryz.underlying9 h1
  obtain ⟨b, e2, rfl⟩ := DataW.trod_bool Tryz.underlying4 h2
  have g0 : c0 = .string s0 := by injection e0
  have g1 : c1 = .string s1 := by injection e1
  have g2 : c2 = .bool b := by injection e2
  subst g0 g1 g2
  refine ⟨s0.data.toList, s1.data.toList, b, rfl, ?_, ?_⟩
  · show _ ≤ ((s0.data.toList.length + 1) + ((s1.data.toList.length + 1) + (Rows.uptoBulk _ + 0))) + 1
    omega
  · show _ ≤ ((s0.data.toList.length + 1) + ((s1.data.toList.length + 1) + (Rows.uptoBulk _ + 0))) + 1
    omega
set_option maxRecDepth 100000 in
theorem open_pathB {cs : List Value} {x : DataW H × List MemPlace} (h : DataW.trod enc Tryz.prog W 0 (fun _ => true) true fuel 26 cs = some x) : ∃ (P : Pa) (a : Option Addr) (c : Nat), cs = (paCells P (.slice a P.route.length c)).toList ∧ TextsAt W a P.route ∧ PaFits P (Rows.uptoBulk x.1) ∧ P.route.length ≤ c := by
  obtain ⟨xs, n, rfl, rfl, hl, hlen, hf⟩ := DataW.trod_struct Tryz.underlying26 h
  rw [zPath] at hl
  have hlen : xs.length = 3 := hlen
  obtain ⟨c0, c1, c2, c3, c4, rfl⟩ := of5 cs hl
  obtain ⟨y0, y1, y2, rfl⟩ := of3 xs hlen
  have h0 : DataW.trod enc Tryz.prog W 0 (fun _ => true) true n 4 (([c0, c1, c2, c3, c4].drop 0).take (Tryz.prog.cellsOf 4)) = some y0 := hf 0 _ rfl
  have h1 : DataW.trod enc Tryz.prog W 0 (fun _ => true) true n 22 (([c0, c1, c2, c3, c4].drop 1).take (Tryz.prog.cellsOf 22)) = some y1 := hf 1 _ rfl
  have h2 : DataW.trod enc Tryz.prog W 0 (fun _ => true) true n 24 (([c0, c1, c2, c3, c4].drop 2).take (Tryz.prog.cellsOf 24)) = some y2 := hf 2 _ rfl
  rw [zBool] at h0
  rw [zStrings] at h1
  rw [zBox] at h2
  obtain ⟨b, e0, rfl⟩ := DataW.trod_bool Tryz.underlying4 h0
  obtain ⟨a, c, l, e1, ht, hc, hb⟩ := open_textsB h1
  obtain ⟨loc, d, lit, e2, hb1, hb2⟩ := open_box h2
  have g0 : c0 = .bool b := by injection e0
  have e1' : [c1] = [Value.slice a l.length c] := e1
  have g1 : c1 = .slice a l.length c := by injection e1'
  have e2' : [c2, c3, c4] = [Value.string (bs loc), .string (bs d), .bool lit] := e2
  simp only [List.cons.injEq, and_true] at e2'
  obtain ⟨g2, g3, g4⟩ := e2'
  subst g0 g1 g2 g3 g4
  have hbulk : Rows.uptoBulk y1.1 + Rows.uptoBulk y2.1 ≤ Rows.uptoBulkAll [(DataW.lit (.bool b), ([] : List MemPlace)).1, y1.1, y2.1] := by
    simp only [Rows.uptoBulkAll]
    omega
  refine ⟨⟨b, l, loc, d, lit⟩, a, c, rfl, ht, ⟨?_, ?_, fun s hs => ?_⟩, hc⟩
  · show _ ≤ Rows.uptoBulkAll [(DataW.lit (.bool b), ([] : List MemPlace)).1, y1.1, y2.1] + 1
    show loc.length ≤ _
    omega
  · show _ ≤ Rows.uptoBulkAll [(DataW.lit (.bool b), ([] : List MemPlace)).1, y1.1, y2.1] + 1
    show d.length ≤ _
    omega
  · show _ ≤ Rows.uptoBulkAll [(DataW.lit (.bool b), ([] : List MemPlace)).1, y1.1, y2.1] + 1
    have := hb s hs
    omega
end Go.Proofs.YtnkepdeegpampaaGreatDoor

/-
  A command that came in lies in memory, and its texts are no longer than the reading's bulk; what the program's table of words holds. No conditions.
-/
namespace Go.Proofs.YtnkepdeegpampaaGreatDoor
open Go.ChangeShapes Go.RowKit
variable {H : Type} {enc : TypeId × Value → H} {W : World} {fuel : Nat}

theorem CmFits.mono {c : Cm} {n m : Nat} (h : CmFits c n) (hm : n ≤ m) : CmFits c m := ⟨Nat.le_trans h.arg hm, h.path.mono hm, fun p hp => ⟨Nat.le_trans (h.pms p hp).1 hm, Nat.le_trans (h.pms p hp).2 hm⟩⟩
theorem zU8 : Tryz.prog.cellsOf 5 = 1 := by kernel_rfl
theorem zPm : Tryz.prog.cellsOf 45 = 3 := by kernel_rfl
theorem zPms : Tryz.prog.cellsOf 27 = 1 := by kernel_rfl
theorem zCmd : Tryz.prog.cellsOf 29 = 8 := by kernel_rfl
theorem of4 {α : Type} (l : List α) (h : l.length = 4) : ∃ a0 a1 a2 a3, l = [a0, a1, a2, a3] := by
  match l, h with
  | [a0, a1, a2, a3], _ => exact ⟨a0, a1, a2, a3, rfl⟩
theorem of8 {α : Type} (l : List α) (h : l.length = 8) : ∃ a0 a1 a2 a3 a4 a5 a6 a7, l = [a0, a1, a2, a3, a4, a5, a6, a7] := by
  match l, h with
  | [a0, a1, a2, a3, a4, a5, a6, a7], _ => exact ⟨a0, a1, a2, a3, a4, a5, a6, a7, rfl⟩
set_option maxRecDepth 100000 in
theorem open_pm {cs : List Value} {x : DataW H × List MemPlace} (h : DataW.trod enc Tryz.prog W 0 (fun _ => true) true fuel 45 cs = some x) : ∃ p : Pm, cs = pmCells p ∧ p.key.length ≤ Rows.uptoBulk x.1 ∧ p.value.length ≤ Rows.uptoBulk x.1 := by
  obtain ⟨xs, n, rfl, rfl, hl, hlen, hf⟩ := DataW.trod_struct Tryz.underlying45 h
  rw [zPm] at hl
  have hlen : xs.length = 3 := hlen
  obtain ⟨c0, c1, c2, rfl⟩ := of3 cs hl
  obtain ⟨y0, y1, y2, rfl⟩ := of3 xs hlen
  have h0 : DataW.trod enc Tryz.prog W 0 (fun _ => true) true n 9 (([c0, c1, c2].drop 0).take (Tryz.prog.cellsOf 9)) = some y0 := hf 0 _ rfl
  have h1 : DataW.trod enc Tryz.prog W 0 (fun _ => true) true n 9 (([c0, c1, c2].drop 1).take (Tryz.prog.cellsOf 9)) = some y1 := hf 1 _ rfl
  have h2 : DataW.trod enc Tryz.prog W 0 (fun _ => true) true n 4 (([c0, c1, c2].drop 2).take (Tryz.prog.cellsOf 4)) = some y2 := hf 2 _ rfl
  rw [zString] at h0 h1
  rw [zBool] at h2
  obtain ⟨s0, e0, rfl, _⟩ := DataW.trod_string Tryz.underlying9 h0
  obtain ⟨s1, e1, rfl, _⟩ := DataW.trod_string Tryz.underlying9 h1
  obtain ⟨b, e2, rfl⟩ := DataW.trod_bool Tryz.underlying4 h2
  have g0 : c0 = .string s0 := by injection e0
  have g1 : c1 = .string s1 := by injection e1
  have g2 : c2 = .bool b := by injection e2
  subst g0 g1 g2
  refine ⟨⟨s0.data.toList, s1.data.toList, b⟩, rfl, ?_, ?_⟩
  · show s0.data.toList.length ≤ ((s0.data.toList.length + 1) + ((s1.data.toList.length + 1) + (Rows.uptoBulk _ + 0))) + 1
    omega
  · show s1.data.toList.length ≤ ((s0.data.toList.length + 1) + ((s1.data.toList.length + 1) + (Rows.uptoBulk _ + 0))) + 1
    omega
theorem bulk_pos (d : DataW H) : 1 ≤ Rows.uptoBulk d := by
  cases d with
  | lit x => cases x <;> simp [Rows.uptoBulk]
  | nil => simp [Rows.uptoBulk]
  | ptr d => simp [Rows.uptoBulk]
  | slice a b => simp [Rows.uptoBulk]
  | agg p => simp [Rows.uptoBulk]
  | iface t d => simp [Rows.uptoBulk]
  | map e => simp [Rows.uptoBulk]
  | held e => simp [Rows.uptoBulk]
theorem bulk_len : ∀ ds : List (DataW H), ds.length ≤ Rows.uptoBulkAll ds
  | [] => Nat.zero_le _
  | d :: ds => by
    have h1 := bulk_pos d
    have h2 := bulk_len ds
    rw [Rows.uptoBulkAll, List.length_cons]
    omega
theorem open_pmsB {cs : List Value} {x : DataW H × List MemPlace} (hbk : Rows.uptoBulk x.1 ≤ 1048576) (h : DataW.trod enc Tryz.prog W 0 (fun _ => true) true fuel 27 cs = some x) : ∃ a c l, cs = [.slice a (List.length l) c] ∧ PmsAt W a l ∧ ∀ p ∈ l, p.key.length ≤ Rows.uptoBulk x.1 ∧ p.value.length ≤ Rows.uptoBulk x.1 := by
  rcases DataW.trod_slice Tryz.underlying27 h with ⟨hn, rfl⟩ | ⟨a, len, cap, elems, rest, m, rfl, hcs, rfl, hb, hl, hm, hlen, hel, _, _⟩
  · exact ⟨none, 0, [], hn, pms_none _ _, fun s hs => (by cases hs)⟩
  · have each : ∀ i : Nat, ∃ p : Pm, i < len → (∀ r, r < 3 → W.cell? (a.add (i * 3 + r)) = (pmCells p)[r]?) ∧ ∃ y, elems[i]? = some y ∧ p.key.length ≤ Rows.uptoBulk y.1 ∧ p.value.length ≤ Rows.uptoBulk y.1 := fun i => by
      by_cases hi : i < len
      · have he := hel i hi
        rw [List.getElem?_eq_getElem (by omega), zPm, Option.bind_eq_some_iff] at he
        obtain ⟨cs', hc', ht'⟩ := he
        obtain ⟨p, rfl, e2, e3⟩ := open_pm ht'
        obtain ⟨_, _, hcell⟩ := World.cells?_some hc'
        refine ⟨p, fun _ => ⟨fun r hr => ?_, _, List.getElem?_eq_getElem (by omega), e2, e3⟩⟩
        have h0 := hcell r hr
        have e : (a.add (i * 3)).add r = a.add (i * 3 + r) := by
          unfold Addr.add
          by_cases h1 : i * 3 = 0 <;> by_cases h2 : r = 0 <;> simp [h1, h2, Nat.add_assoc]
        rw [e] at h0
        exact h0
      · exact ⟨⟨[], [], false⟩, fun h => absurd h hi⟩
    obtain ⟨f, hf⟩ := Classical.axiomOfChoice each
    have hkl : ((List.range len).map f).length = len := by simp
    refine ⟨some a, cap, (List.range len).map f, by rw [hkl]; exact hcs, row_of a _ ?_ fun j hj => ?_, fun p hp => ?_⟩
    · rw [pmFlat_len, hkl]
      have h1 := bulk_len (elems.map (·.1))
      rw [List.length_map, hlen] at h1
      have h2 : Rows.uptoBulkAll (elems.map (·.1)) + Rows.uptoBulkAll (rest.map (·.1)) + 1 ≤ 1048576 := hbk
      unfold maxLen
      omega
    · rw [pmFlat_len, hkl] at hj
      have hi : j / 3 < len := by omega
      have hjr : j = j / 3 * 3 + j % 3 := by omega
      have hk : j / 3 < ((List.range len).map f).length := by rw [hkl]; exact hi
      have h1 := (hf (j / 3) hi).1 (j % 3) (Nat.mod_lt _ (by decide))
      have h2 := pmFlat_at ((List.range len).map f) (j / 3) hk (j % 3) (Nat.mod_lt _ (by decide))
      rw [← hjr] at h1 h2
      rw [h1, ← List.getElem?_eq_getElem, h2, List.getElem_map, List.getElem_range]
    · obtain ⟨i, hi, rfl⟩ := List.mem_map.1 hp
      have hi := List.mem_range.1 hi
      obtain ⟨_, y, h1, h2, h3⟩ := hf i hi
      have := bulk_of (elems.map (·.1)) i y.1 (by rw [List.getElem?_map, h1]; rfl)
      have hh : Rows.uptoBulkAll (elems.map (·.1)) ≤ Rows.uptoBulkAll (elems.map (·.1)) + Rows.uptoBulkAll (rest.map (·.1)) + 1 := by omega
      exact ⟨Nat.le_trans h2 (Nat.le_trans this hh), Nat.le_trans h3 (Nat.le_trans this hh)⟩
set_option maxRecDepth 100000 in
theorem open_cmdB {cs : List Value} {x : DataW H × List MemPlace} (hbk : Rows.uptoBulk x.1 ≤ 1048576) (h : DataW.trod enc Tryz.prog W 0 (fun _ => true) true fuel 29 cs = some x) : ∃ (C : Cm) (a1 : Option Addr) (c1 : Nat) (a2 : Option Addr) (c2 : Nat), cs = (cmCells C (.slice a1 C.path.route.length c1) (.slice a2 C.params.length c2)).toList ∧ C.verb ≤ 255 ∧ CmIn W C a1 c1 a2 ∧ CmFits C (Rows.uptoBulk x.1) := by
  obtain ⟨xs, n, rfl, rfl, hl, hlen, hf⟩ := DataW.trod_struct Tryz.underlying29 h
  rw [zCmd] at hl
  have hlen : xs.length = 4 := hlen
  obtain ⟨c0, c1, c2, c3, c4, c5, c6, c7, rfl⟩ := of8 cs hl
  obtain ⟨y0, y1, y2, y3, rfl⟩ := of4 xs hlen
  have h0 : DataW.trod enc Tryz.prog W 0 (fun _ => true) true n 5 (([c0, c1, c2, c3, c4, c5, c6, c7].drop 0).take (Tryz.prog.cellsOf 5)) = some y0 := hf 0 _ rfl
  have h1 : DataW.trod enc Tryz.prog W 0 (fun _ => true) true n 9 (([c0, c1, c2, c3, c4, c5, c6, c7].drop 1).take (Tryz.prog.cellsOf 9)) = some y1 := hf 1 _ rfl
  have h2 : DataW.trod enc Tryz.prog W 0 (fun _ => true) true n 26 (([c0, c1, c2, c3, c4, c5, c6, c7].drop 2).take (Tryz.prog.cellsOf 26)) = some y2 := hf 2 _ rfl
  have h3 : DataW.trod enc Tryz.prog W 0 (fun _ => true) true n 27 (([c0, c1, c2, c3, c4, c5, c6, c7].drop 7).take (Tryz.prog.cellsOf 27)) = some y3 := hf 3 _ rfl
  rw [zU8] at h0
  rw [zString] at h1
  rw [zPath] at h2
  rw [zPms] at h3
  have hall : Rows.uptoBulk y0.1 + Rows.uptoBulk y1.1 + Rows.uptoBulk y2.1 + Rows.uptoBulk y3.1 ≤ Rows.uptoBulkAll [y0.1, y1.1, y2.1, y3.1] := by
    simp only [Rows.uptoBulkAll]
    omega
  have hbk2 : Rows.uptoBulkAll [y0.1, y1.1, y2.1, y3.1] + 1 ≤ 1048576 := hbk
  obtain ⟨k, e0, _, hk⟩ := DataW.trod_int Tryz.underlying5 h0
  obtain ⟨s, e1, es, _⟩ := DataW.trod_string Tryz.underlying9 h1
  obtain ⟨P, a1, cp, e2, ht, hfit, hroom⟩ := open_pathB h2
  obtain ⟨a2, cq, L, e3, hpm, hfl⟩ := open_pmsB (by omega) h3
  have g0 : c0 = .int .u8 k := by injection e0
  have g1 : c1 = .string s := by injection e1
  have g3 : c7 = .slice a2 L.length cq := by
    have e3' : [c7] = [Value.slice a2 L.length cq] := e3
    injection e3'
  have e2' : [c2, c3, c4, c5, c6] = [Value.bool P.null, .slice a1 P.route.length cp, .string (bs P.loc), .string (bs P.dom), .bool P.lit] := e2
  simp only [List.cons.injEq, and_true] at e2'
  obtain ⟨q2, q3, q4, q5, q6⟩ := e2'
  subst g0 g1 g3 q2 q3 q4 q5 q6
  have hkr : 0 ≤ k ∧ k ≤ 255 := by
    simp [Lit.wf, IntKind.min, IntKind.max, IntKind.signed, IntKind.bits] at hk
    omega
  have hkn : ((k.toNat : Nat) : Int) = k := Int.toNat_of_nonneg hkr.1
  have hsb : s.data.toList.length + 1 ≤ Rows.uptoBulk y1.1 := by rw [es]; exact Nat.le_refl _
  refine ⟨⟨k.toNat, s.data.toList, P, L⟩, a1, cp, a2, cq, ?_, ?_, ⟨ht, hroom, hpm⟩, ⟨?_, ?_, fun p hp => ?_⟩⟩
  · simp only [cmCells]
    rw [hkn]
    rfl
  · show k.toNat ≤ 255
    omega
  · show s.data.toList.length ≤ Rows.uptoBulkAll [y0.1, y1.1, y2.1, y3.1] + 1
    omega
  · show PaFits P (Rows.uptoBulkAll [y0.1, y1.1, y2.1, y3.1] + 1)
    exact hfit.mono (by omega)
  · obtain ⟨k1, k2⟩ := hfl p hp
    show p.key.length ≤ Rows.uptoBulkAll [y0.1, y1.1, y2.1, y3.1] + 1 ∧ p.value.length ≤ Rows.uptoBulkAll [y0.1, y1.1, y2.1, y3.1] + 1
    exact ⟨by omega, by omega⟩
theorem zWords : Tryz.prog.cellsOf 59 = 12 := by kernel_rfl
theorem gWords : Tryz.prog.globalNamed "franking/command.words" = some 0 := by kernel_rfl
theorem gWordsType : (Tryz.prog.globals[0]?).map (·.type) = some 59 := by kernel_rfl
/-- the table of words holds the words -/
theorem words_of {rest : List (String × DataW Unit)} (h : laidMet Tryz.prog (("franking/command.words", Rows.laid_franking_command_words) :: rest) W) : ∀ i, i < 12 → W.cell? ⟨0, i, none⟩ = some (.string (bs (wordP i))) := by
  obtain ⟨ps, ⟨g', t', cs, fuel, p, q, hg', ht', hvar, hd, _, _⟩, _⟩ := h
  obtain rfl := Option.some.inj (gWords.symm.trans hg')
  obtain rfl := Option.some.inj (gWordsType.symm.trans ht')
  intro i hi
  rw [World.var?_cell gWords hvar i]
  obtain ⟨xs, m, rfl, hx, hl, hlen, hf⟩ := DataW.trod_array Tryz.underlying59 hd
  have hi2 := hf i hi
  rw [zString, Nat.mul_one] at hi2
  have hxs : xs.map (·.1) = wordsV.map fun s => (DataW.lit (.string s) : DataW Unit) := by
    have := congrArg Prod.fst hx
    have e : (Rows.laid_franking_command_words : DataW Unit) = .agg (wordsV.map fun s => (DataW.lit (.string s) : DataW Unit)) := rfl
    rw [e] at this
    exact (DataW.agg.inj this).symm
  have hxi : i < xs.length := by omega
  rw [List.getElem?_eq_getElem hxi] at hi2
  obtain ⟨s, e1, e2, _⟩ := DataW.trod_string Tryz.underlying9 hi2
  have h1 : cs.toList[i]? = some (.string s) := by
    have := congrArg (·[0]?) e1
    simpa [List.getElem?_take, List.getElem?_drop] using this
  have h2 : (xs.map (·.1))[i]? = some (DataW.lit (.string s.data.toList)) := by
    rw [List.getElem?_map, List.getElem?_eq_getElem hxi, e2]
    rfl
  rw [hxs, List.getElem?_map] at h2
  have hw : wordsV[i]? = some (wordP i) := by
    unfold wordP
    rw [List.getD_eq_getElem?_getD]
    have hlw : i < wordsV.length := hi
    rw [List.getElem?_eq_getElem hlw]
    rfl
  rw [hw] at h2
  have h3 : wordP i = s.data.toList := by
    rw [Option.map_some] at h2
    exact Lit.string.inj (DataW.lit.inj (Option.some.inj h2))
  rw [← Array.getElem?_toList, h1, h3]
  rfl
end Go.Proofs.YtnkepdeegpampaaGreatDoor

/-
  CommandCase answers true, and leaves its arguments as they were, for every input of bulk at most 1048576 (the form 'Upto'): the row, and the tied card. Conditions: that bound; the listed variables as the library's text lays them (the card ties them).
-/
namespace Go.Proofs.YtnkepdeegpampaaGreatDoor.commandCase
open Go.ChangeShapes Go.WideShapes Go.ChangeAt Go.RowKit
open Go.ChangeMaps (open_string shut_string)

theorem own : ownKnob Tryz.prog.godebug = none := by kernel_rfl
theorem laidOut : laidOutB Tryz.prog = true := by kernel_rfl
theorem gEs : Tryz.prog.globalNamed "strconv.ErrSyntax" = some ErrG := by kernel_rfl
theorem gEsType : (Tryz.prog.globals[ErrG]?).map (·.type) = some 70 := by kernel_rfl
theorem cellsE : Tryz.prog.cellsOf 148 = 1 := by kernel_rfl
theorem cellsS : Tryz.prog.cellsOf 9 = 1 := by kernel_rfl
theorem star : "*" ++ "errors.errorString" = "*errors.errorString" := by decide
theorem rowE (u : TypeId) (h : Tryz.prog.typeName? 3 u = some "*errors.errorString") : u = 146 :=
  typeName_ptr_named (nm := "errors.errorString") (by rw [star]; kernel_rfl) (by kernel_rfl) (by decide) u (by rw [star]; exact h)
theorem env_of_laid {W : World} (h : laidMetH Tryz.prog Rows.commandCaseUptoRow.laid W) (hS : W.ShapedOpen Tryz.prog) : Env W := by
  rw [MakeChecks.laidMetH_plain _ _ _ (by kernel_rfl)] at h
  have h' : laidMet Tryz.prog [("math/bits.deBruijn32tab", Rows.laid_math_bits_deBruijn32tab), ("math/bits.deBruijn64tab", Rows.laid_math_bits_deBruijn64tab), ("internal/strconv.uint64pow10", Rows.laid_internal_strconv_uint64pow10), ("unicode/utf8.acceptRanges", Rows.laid_unicode_utf8_acceptRanges), ("strconv.ErrRange", Rows.laid_strconv_ErrRange), ("strconv.ErrSyntax", Rows.laid_strconv_ErrSyntax), ("franking/command.words", Rows.laid_franking_command_words), ("unicode/utf8.first", Rows.laid_unicode_utf8_first)] W := h
  obtain ⟨a0, s0, hv0, -, -, -⟩ := laid_sentinel h'.tail.tail.tail.tail.tail gEs gEsType Tryz.underlying70 rowE Tryz.underlying146 Tryz.underlying148 rfl rfl Tryz.underlying9 cellsE cellsS
  have h0 : W.cell? ⟨ErrG, 0, none⟩ = some (.iface 146 (.pointer (some a0))) := by have h0 := World.var?_cell gEs hv0 0; simpa using h0
  obtain ⟨mx, hmx⟩ := cell_of_shapedOpen_int (g := 1) (zero := #[.int .i64 0]) (t := 3) hS (of_decide_eq_true (by kernel_rfl)) (by kernel_rfl) rfl (by kernel_rfl) (by kernel_rfl) Tryz.underlying3
  exact ⟨⟨⟨_, h0, Or.inr ⟨_, _, rfl⟩⟩, World.block_lt_of_cell? _ _ h0⟩, ⟨mx, hmx⟩, words_of h'.tail.tail.tail.tail.tail.tail⟩
theorem bs_self (s : ByteArray) : bs s.data.toList = s := rfl

abbrev inp : Array Value := #[.agg #[.int .u8 0, .string .empty, .bool false, .slice none 0 0, .string .empty, .string .empty, .bool false, .slice none 0 0], .slice none 0 0]
theorem reads (os : Os) {H : Type} (enc : TypeId × Value → H) : ∃ places, DataW.whole enc Tryz.prog ((World.laidAll Tryz.prog os Rows.commandCaseUptoRow.laid).forCall (fun _ _ => 0) ⟨#[], inp, []⟩).memory Tryz.f5.params.toList Rows.commandCaseSpec.vars false inp.toList 8 = some ([.agg [.lit (.int .u8 0), .lit (.string []), .agg [.lit (.bool false), .nil, .agg [.lit (.string []), .lit (.string []), .lit (.bool false)]], .nil], .nil], [], places) :=
  ⟨[], by kernel_rfl⟩

set_option maxRecDepth 100000 in
theorem contract (H : Type) (enc : TypeId × Value → H) (W : World) (base : Nat) (args : Array Value) (ds gs : List (DataW H)) (before : List MemPlace)
    (hval0 : ∀ (j : Nat) t v, Tryz.f5.params[j]? = some t → args[j]? = some v → Value.okWide Tryz.prog W .any base t v)
    (hW : DataW.Whole enc Tryz.prog Tryz.f5.params.toList Rows.commandCaseSpec.vars false W args.toList ds gs before) (hk : Rows.uptoSmall H (ds ++ gs) = true) (hL : laidMetH Tryz.prog Rows.commandCaseUptoRow.laid W) (hS : W.ShapedOpen Tryz.prog) :
    Calls Tryz.prog 5 args W fun e W' => ∃ v, e = .returned v ∧ Rows.commandCaseSpec.post enc Tryz.prog Tryz.f5 false true false false W args v W' := by
  have hval : ∀ (j : Nat) t v, Tryz.f5.params[j]? = some t → args[j]? = some v → Value.okWide Tryz.prog W .any base t v := hval0
  have hW' := hW
  obtain ⟨p, q, hA0, hV, rfl, _, _⟩ := hW
  have hA : DataW.TrodAll enc Tryz.prog W 0 (fun _ => true) true Tryz.f5.params.toList args.toList ds p := hA0
  rw [Tryz.params5] at hA hval
  obtain ⟨v0, vs0, d0, ds0, p0, q0, hargs, rfl, rfl, h0, r0⟩ := trodAll_cons hA
  obtain ⟨v1, vs1, d1, ds1, p1, q1, rfl, rfl, rfl, h1, r1⟩ := trodAll_cons r0
  obtain ⟨rfl, rfl, rfl⟩ := trodAll_nil r1
  obtain rfl : args = #[v0, v1] := by cases args; simp_all
  obtain ⟨rfl, rfl⟩ := trodVars_none hV
  have k0 := h0
  have lt0 : ∀ x ∈ p0, x.block < W.heap.size := by obtain ⟨m, hm⟩ := k0; exact DataW.trod_lt m _ _ _ hm
  have k1 := h1
  have lt1 : ∀ x ∈ p1, x.block < W.heap.size := by obtain ⟨m, hm⟩ := k1; exact DataW.trod_lt m _ _ _ hm
  have hb : Rows.uptoBulkAll ([d0, d1] ++ []) ≤ 1048576 := of_decide_eq_true hk
  simp only [List.append_nil, Rows.uptoBulkAll, Rows.uptoBulk] at hb
  obtain ⟨cs0, rfl, _⟩ := okWide_struct Tryz.underlying29 (hval 0 29 v0 rfl rfl)
  obtain ⟨C0, a0, c0, b0, e0, hcs0, hcv0, hci0, hcf0⟩ : ∃ (C : Cm) (a1 : Option Addr) (c1 : Nat) (a2 : Option Addr) (c2 : Nat), cs0.toList = (cmCells C (.slice a1 C.path.route.length c1) (.slice a2 C.params.length c2)).toList ∧ C.verb ≤ 255 ∧ CmIn W C a1 c1 a2 ∧ CmFits C (Rows.uptoBulk d0) := by
    obtain ⟨fuel, hf⟩ := h0
    exact open_cmdB (show Rows.uptoBulk d0 ≤ 1048576 by omega) hf
  obtain rfl : cs0 = cmCells C0 (.slice a0 C0.path.route.length c0) (.slice b0 C0.params.length e0) := by rw [← Array.toList_inj, hcs0]
  obtain ⟨a1, n1, c1, rfl⟩ := okWide_slice Tryz.underlying41 (hval 1 41 v1 rfl rfl)
  obtain ⟨x1, y1, l1, e1, hb1, hc1⟩ : ∃ a c l, [Value.slice a1 n1 c1] = [.slice a (List.length l) c] ∧ BytesAt W a l ∧ l.length ≤ c := by
    obtain ⟨fuel, hf⟩ := h1
    obtain ⟨a, c, l, e1, e2, e3, _⟩ := bytes_cell hf
    exact ⟨a, c, l, e1, e2, e3⟩
  simp only [List.cons.injEq, Value.slice.injEq, and_true] at e1
  obtain ⟨rfl, rfl, rfl⟩ := e1
  have htz := env_of_laid hL hS
  clear hA0 hval0
  refine (case16_any C0 hcv0 a0 b0 c0 e0 (hcf0.mono (by omega)) l1 _ _ W hci0 hb1 htz).mono fun e W' ⟨he, bel⟩ => ?_
  subst he
  exact ⟨_, rfl, _, _, _, [], _, [], hW', trodAll_mk1 (shut_bool Tryz.underlying4 _), (trodAll_cons_mk (Below.trod laidOut (by kernel_rfl) (of_decide_eq_true (by kernel_rfl)) k0 bel lt0) (trodAll_cons_mk (Below.trod laidOut (by kernel_rfl) (of_decide_eq_true (by kernel_rfl)) k1 bel lt1) trodAll_mk0)), rfl, bel.frame _, fun h => by cases h⟩

set_option maxRecDepth 100000 in
theorem lifted (os : Os) (started : os.Started) (H : Type) (enc : TypeId × Value → H) (J : Stop.Interp) :
    ReturnsInHanded {} Tryz.checked os 5 .any ((Rows.OpenSpec.upto Rows.commandCaseSpec).preRow enc Tryz.prog Tryz.f5 Rows.commandCaseUptoRow.domain false Rows.commandCaseUptoRow.laid) (((Rows.OpenSpec.upto Rows.commandCaseSpec).at J).post enc Tryz.prog Tryz.f5 false true false false) := by
  obtain ⟨places, hx⟩ := reads os enc
  have hok : Input.okWideB Tryz.prog ((World.laidAll Tryz.prog os Rows.commandCaseUptoRow.laid).forCall (fun _ _ => 0) ⟨#[], inp, []⟩) 5 ⟨#[], inp, []⟩ = true := by kernel_rfl
  refine returnsInHanded_of_row (C := Tryz.checked) (s := Rows.OpenSpec.upto Rows.commandCaseSpec) own started (by kernel_rfl) Tryz.func5
    ⟨World.laidAll Tryz.prog os Rows.commandCaseUptoRow.laid, fun _ _ => 0, ⟨#[], inp, []⟩, World.laidAll_os _ _ _, World.shaped_of_ZipB (by kernel_rfl) (by kernel_rfl), (Input.okWide_of_okWideB (base := 0) hok).1, (Input.okWide_of_okWideB hok).2,
      OpenSpec.preRow_of_cond 8 hx (by kernel_rfl) (fun k hk => by cases hk; kernel_rfl) (by kernel_rfl) (by rw [MakeChecks.laidMetH_plain _ _ _ (by kernel_rfl)]; exact laidMet_laidAll _ (by kernel_rfl) (by kernel_rfl)), by
        simp only [Assume.holds]
        exact ⟨by simp, by simp, fun _ => Modest.zero, by simp, by simp⟩⟩ ?_
  intro W base args ds gs before hval hW _ hcond _ hL hS _
  exact contract H enc W base args ds gs before hval hW (hcond _ rfl) hL hS

theorem holds : Rows.CommandCaseUptoSaid :=
  OpenClaim.holds_of_cond 5 Tryz.f5 rfl rfl rfl rfl rfl rfl rfl ⟨rfl, rfl, rfl, rfl, rfl⟩ rfl rfl rfl rfl rfl (by kernel_rfl) Tryz.func5 (by kernel_rfl)
    (of_decide_eq_true (by kernel_rfl)) (by unfold Func.isWrapper; first | (rw [if_pos (by decide +kernel)]; kernel_rfl) | (rw [if_neg (by decide +kernel)]; exact ⟨rfl, rfl⟩))
    (fun os started H enc _ J => by rw [OpenClaim.pre_eq_preRow]; exact lifted os started H enc J)
theorem card_holds : Rows.CommandCaseUptoCardSaid :=
  Claim7.holds_tied_plain_at .later [] [.data, .data, .data, .data, .sentinel, .sentinel, .data, .pinned] true Rows.commandCaseUptoCard.stood.harness true holds (fun _ h => by cases h) (by kernel_rfl) (fun _ h => by cases h) commandCaseUpto_row_tie rfl ⟨rfl, rfl⟩ (by kernel_rfl) rfl
    (fun f fn hf hfn => by
      obtain rfl : f = 5 := Option.some.inj ((show Tryz.prog.funcNamed "franking/frankinglaw16.CommandCase" = some 5 by kernel_rfl).symm.trans hf) |>.symm
      obtain rfl : fn = Tryz.f5 := (Option.some.inj (Tryz.func5.symm.trans hfn)).symm
      exact ⟨by kernel_rfl, fun j t ht => by
        rw [Tryz.params5] at ht
        have hm : t ∈ [29, 41] := by simpa using Array.mem_of_getElem? ht
        have hall : ([29, 41].all fun u => !Tryz.prog.wantsStandIn u) = true := by kernel_rfl
        exact (show Tryz.prog.wantsStandIn t = false by simpa using List.all_eq_true.1 hall t hm)⟩)
    (by kernel_rfl)
end Go.Proofs.YtnkepdeegpampaaGreatDoor.commandCase
