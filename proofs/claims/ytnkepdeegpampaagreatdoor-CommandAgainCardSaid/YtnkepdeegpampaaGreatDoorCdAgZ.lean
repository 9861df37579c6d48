/-
  CommandAgain answers true, and leaves its arguments as they were, for every input: the row, and the tied card. Conditions: the listed variables as the library's text lays them (the card ties them).
-/
import Derived.Test.YtnkepdeegpampaaGreatDoorM07
import Derived.Test.YtnkepdeegpampaaGreatDoorM05
import Derived.Test.YtnkepdeegpampaaGreatDoorRows
import Derived.Test.YtnkepdeegpampaaGreatDoorTie
import Derived.Test.YtnkepdeegpampaaGreatDoorCards
import Derived.WalkKit
import Derived.ProofKit
import Derived.OpenShut
import Derived.LaidMore
import Derived.Lay
import Derived.SevenTiedAt
import Derived.Stop.Joined
import Derived.Stop.LaidErr
import Derived.Lib.LaidTab
import Derived.Deep.DeepHandedRow
import Derived.ShutString
import Derived.ChangeOld
import Derived.Below
/-
  The contract of frankinglaw16.CommandAgain. Conditions: the variables that are read.
-/
namespace Go.Proofs.YtnkepdeegpampaaGreatDoor
open Go.RowKit Go.Shelf

/-- a command that was told is no longer than its line -/
theorem told_fits {line : List UInt8} {c : Cm} (h : cmdP line = (c, 0)) : c.verb ≤ 255 ∧ CmFits c 1099511627776 := by
  obtain ⟨h1, h2, h3, h4⟩ := line_right h
  obtain ⟨hn, v1, v2, ht, e⟩ := right_some h2
  have hbl : (behindP c).length ≤ 510 := by
    rw [e, List.length_append] at hn
    by_cases hb : behindP c = []
    · rw [hb]; exact Nat.zero_le _
    · rw [if_neg hb, List.length_cons] at hn; omega
  refine ⟨by omega, ?_⟩
  by_cases hs : c.verb = 3 ∨ c.verb = 4
  · obtain ⟨ahead, hv2⟩ : ∃ ahead, (c.verb = 3 ∧ ahead = fromT ∨ c.verb = 4 ∧ ahead = toT) := by
      rcases hs with h | h
      · exact ⟨fromT, .inl ⟨h, rfl⟩⟩
      · exact ⟨toT, .inr ⟨h, rfl⟩⟩
    obtain ⟨k1, k2, k3, k4, k5, k6⟩ := sent_some hv2 h2
    have ha : c.arg = [] := congrArg Cm.arg k3
    obtain ⟨r1, r2, r3, r4⟩ := right_lens k1.right
    have hpl : (c.params.flatMap pmT).length ≤ 510 := by
      rw [k2, List.length_append, List.length_append] at hbl
      omega
    refine ⟨by rw [ha]; exact Nat.zero_le _, ⟨by omega, by omega, fun d hd => by have := r4 d hd; omega⟩, fun p hp => ?_⟩
    have hpp : (pmT p).length ≤ (c.params.flatMap pmT).length := by
      obtain ⟨l1, l2, hl⟩ := List.append_of_mem hp
      rw [hl, List.flatMap_append, List.flatMap_cons, List.length_append, List.length_append]
      omega
    have hk : p.key.length ≤ (pmT p).length := by
      unfold pmT
      rw [List.length_cons, List.length_append]
      omega
    have hv : p.value.length ≤ (pmT p).length := by
      cases hh : p.has with
      | false => rw [(k1.fine p hp).2.2.1 hh]; exact Nat.zero_le _
      | true => unfold pmT; rw [if_pos hh]; simp; omega
    exact ⟨by omega, by omega⟩
  · have hb : behindP c = c.arg := by unfold behindP; rw [if_neg (by omega), if_neg (by omega)]
    rw [hb] at hbl ht
    have hpq : c.path = {} ∧ c.params = [] := by
      obtain ⟨v, arg, p, l⟩ := c
      simp only at v1 v2 hs
      generalize (!decide (arg = [])) = bl at ht
      have h2' := (Prod.mk.inj ht).1
      obtain hv | hv | hv | hv | hv | hv | hv | hv | hv : v = 1 ∨ v = 2 ∨ v = 5 ∨ v = 6 ∨ v = 7 ∨ v = 8 ∨ v = 9 ∨ v = 10 ∨ v = 11 := by omega
      all_goals
        subst hv
      all_goals
        first
        | exact ⟨(congrArg Cm.path h2').symm, (congrArg Cm.params h2').symm⟩
        | (cases bl
           · exact ⟨(congrArg Cm.path h2').symm, (congrArg Cm.params h2').symm⟩
           · exact ⟨(congrArg Cm.path h2').symm, (congrArg Cm.params h2').symm⟩)
    obtain ⟨q1, q2⟩ := hpq
    refine ⟨by omega, ?_, fun p hp => ?_⟩
    · rw [q1]
      exact ⟨Nat.zero_le _, Nat.zero_le _, fun d hd => by cases hd⟩
    · rw [q2] at hp
      cases hp
set_option maxRecDepth 100000 in
set_option maxHeartbeats 2000000 in
theorem again16_any (line : List UInt8) (hl : line.length ≤ 9223372036854775807) (w : World) (he : Env w) : Calls Tryz.prog 4 #[.string (bs line)] w (SameOut w true) := by
  have HQ : Hid (∀ w', Below w.heap.size w w' → SameOut w true (.returned (.bool true)) w') := fun w' h => ⟨rfl, h⟩
  generalize SameOut w true = Q at *
  have HAW := Lib.hid (fun W (hW : Below w.heap.size w W) => awake16_any W (he.later hW))
  have HE := Lib.hid (fun W (hW : Below w.heap.size w W) => he.later hW)
  have hp := cparse_any line hl w he
  have hls : (bs line).size = line.length := rfl
  obtain ⟨d, hd⟩ : ∃ d, d = (cmdP line).1 := ⟨_, rfl⟩
  obtain ⟨z, hz⟩ : ∃ z, z = (cmdP line).2 := ⟨_, rfl⟩
  have hdz : cmdP line = (d, z) := by rw [hd, hz]
  have hbad := cmd_bad line
  rw [← hd, ← hz] at hbad hp
  have HPA := Lib.hid (hp.mono fun _ _ h => h.in_)
  clear hd hz hp
  by_cases h0 : z = 0
  · subst h0
    obtain ⟨k1, k2, k3, k4⟩ := line_right hdz
    obtain ⟨f1, f2⟩ := told_fits hdz
    have HPR := Lib.hid (fun a1 c1 a2 c2 W (hi : CmIn W d a1 c1 a2) (hW : Below w.heap.size w W) => cprint_any d f1 a1 a2 c1 c2 f2 W hi (HE.out W hW))
    unfold PrOut printC at HPR
    rw [if_pos k2] at HPR
    have HPB := Lib.hid (fun W (hW : Below w.heap.size w W) => (cparse_any (lineP d) (by omega) W (HE.out W hW)).mono fun _ _ h => h.in_)
    rw [k4] at HPB
    have HSS := Lib.hid (fun W a1 c1 a2 c2 b1 d1 b2 d2 (h1 : CmIn W d a1 c1 a2) (h2 : CmIn W d b1 d1 b2) => same16_any d d a1 a2 b1 b2 c1 c2 d1 d2 W h1.route h1.pms h2.route h2.pms)
    rw [decide_eq_true rfl] at HSS
    have hll : (bs (lineP d)).size = (lineP d).length := rfl
    have hlz : ((lineP d).length : Int) ≤ (line.length : Int) := by omega
    have hlz2 : (lineP d).length ≤ line.length := k3
    unfold cmV cmCells at HPA HPR HPB HSS
    clear k1 k2 k3 k4 f1 f2 hdz hbad he
    generalize (lineP d).length = l1 at *
    generalize line.length = l2 at *
    generalize bs (lineP d) = S1 at *
    generalize bs line = S at *
    go_enter Tryz.func4, Tryz.ntmps4
    go_upto_region 2 with (go_at_call 11; refine HPA.out.mono ?_; rintro e w2 ⟨a1, c1, a2, c2, rfl, hi, hb⟩; have HI2 := Lib.hid hi; have HB2 := Lib.hid hb; clear hb hi)
    change Code.wp _ _ _ _ (World.alloc w2 (.cells #[.int .u8 (d.verb : Int), .string (bs d.arg), .bool d.path.null, .slice a1 d.path.route.length c1, .string (bs d.path.loc), .string (bs d.path.dom), .bool d.path.lit, .slice a2 d.params.length c2] 29))
    obtain ⟨W3, hW3⟩ : ∃ W3, W3 = w2.alloc (.cells #[.int .u8 (d.verb : Int), .string (bs d.arg), .bool d.path.null, .slice a1 d.path.route.length c1, .string (bs d.path.loc), .string (bs d.path.dom), .bool d.path.lit, .slice a2 d.params.length c2] 29) := ⟨_, rfl⟩
    obtain ⟨g3, hg3⟩ : ∃ g, g = w2.heap.size := ⟨_, rfl⟩
    have HK3 : Hid (Blk W3 g3 29 #[.int .u8 (d.verb : Int), .string (bs d.arg), .bool d.path.null, .slice a1 d.path.route.length c1, .string (bs d.path.loc), .string (bs d.path.dom), .bool d.path.lit, .slice a2 d.params.length c2]) := by rw [hW3, hg3]; exact Blk.new _ _ _
    have HB3 : Hid (Below w.heap.size w W3) := by rw [hW3]; exact HB2.out.alloc HB2.out.size _
    have HI3 : Hid (CmIn W3 d a1 c1 a2) := by rw [hW3]; exact HI2.out.below ((Below.refl _ w2).alloc (Nat.le_refl _) _)
    have HKY : Hid (∀ W, Below W3.heap.size W3 W → Blk W g3 29 #[.int .u8 (d.verb : Int), .string (bs d.arg), .bool d.path.null, .slice a1 d.path.route.length c1, .string (bs d.path.loc), .string (bs d.path.dom), .bool d.path.lit, .slice a2 d.params.length c2]) := fun W hW => HK3.out.below hW HK3.out.lt
    rw [← hW3, ← hg3]
    clear hW3 hg3 HPA HB2 HI2
    obtain ⟨x0, x1, x2, x3, x4, x5, x6, x7⟩ := cells8 HK3.out
    have HPR2 := Lib.hid (HPR.out a1 c1 a2 c2 W3 HI3.out HB3.out)
    go_upto_region 7 with (first | (go_at_call 8; refine HPR2.out.mono ?_; rintro e w4 ⟨rfl, hb⟩; have HB4 := Lib.hid hb; clear hb x0 x1 x2 x3 x4 x5 x6 x7) | (go_at_call 11; refine (HPB.out _ (low_trans HB3.out HB4.out)).mono ?_; rintro e w5 ⟨b1, d1, b2, d2, rfl, hi, hb⟩; have HB5 := Lib.hid (low_trans HB4.out hb); have HI5 := Lib.hid hi; clear hb hi))
    change Code.wp _ _ _ _ (World.alloc w5 (.cells #[.int .u8 (d.verb : Int), .string (bs d.arg), .bool d.path.null, .slice b1 d.path.route.length d1, .string (bs d.path.loc), .string (bs d.path.dom), .bool d.path.lit, .slice b2 d.params.length d2] 29))
    obtain ⟨W6, hW6⟩ : ∃ W6, W6 = w5.alloc (.cells #[.int .u8 (d.verb : Int), .string (bs d.arg), .bool d.path.null, .slice b1 d.path.route.length d1, .string (bs d.path.loc), .string (bs d.path.dom), .bool d.path.lit, .slice b2 d.params.length d2] 29) := ⟨_, rfl⟩
    obtain ⟨g6, hg6⟩ : ∃ g, g = w5.heap.size := ⟨_, rfl⟩
    have HK6 : Hid (Blk W6 g6 29 #[.int .u8 (d.verb : Int), .string (bs d.arg), .bool d.path.null, .slice b1 d.path.route.length d1, .string (bs d.path.loc), .string (bs d.path.dom), .bool d.path.lit, .slice b2 d.params.length d2]) := by rw [hW6, hg6]; exact Blk.new _ _ _
    have HB6 : Hid (Below W3.heap.size W3 W6) := by rw [hW6]; exact HB5.out.alloc HB5.out.size _
    have HI6 : Hid (CmIn W6 d b1 d1 b2) := by rw [hW6]; exact HI5.out.below ((Below.refl _ w5).alloc (Nat.le_refl _) _)
    rw [← hW6, ← hg6]
    clear hW6 hg6 HPR HPR2 HPB
    obtain ⟨x0, x1, x2, x3, x4, x5, x6, x7⟩ := cells8 (HKY.out _ HB6.out)
    obtain ⟨y0, y1, y2, y3, y4, y5, y6, y7⟩ := cells8 HK6.out
    have HSM := Lib.hid (HSS.out W6 a1 c1 a2 c2 b1 d1 b2 d2 (HI3.out.below HB6.out) HI6.out)
    clear HSS
    go_wp2_with (first | (go_at_call 12; refine HSM.out.mono ?_; rintro e w7 ⟨rfl, hb⟩; have HB7 := Lib.hid (low_trans (low_trans HB3.out HB6.out) hb); clear hb) | (go_at_call 10; refine (HAW.out _ HB7.out).mono ?_; rintro e wA ⟨rfl, hb⟩; have HBA := Lib.hid (low_trans HB7.out hb); clear hb))
    exact HQ.out _ HBA.out
  · have hzb : (z == 0) = false := by simpa using h0
    rcases hbad with hbad | ⟨hdd, hbad⟩
    · exact absurd hbad h0
    · subst hdd
      have HPC : Hid (Calls Tryz.prog 11 #[.string (bs line)] w fun e w' => ∃ a1 c1 a2 c2, e = .returned (.tuple #[.agg #[.int .u8 0, .string ⟨#[]⟩, .bool false, .slice a1 0 c1, .string ⟨#[]⟩, .string ⟨#[]⟩, .bool false, .slice a2 0 c2], .int .i64 z]) ∧ Below w.heap.size w w') := HPA.out.mono fun e w' hh => by
        obtain ⟨a1, c1, a2, c2, h1, _, h3⟩ := hh
        exact ⟨a1, c1, a2, c2, h1, h3⟩
      have HSM : Hid (∀ W a1 c1 a2 c2, Calls Tryz.prog 12 #[.agg #[.int .u8 0, .string ⟨#[]⟩, .bool false, .slice a1 0 c1, .string ⟨#[]⟩, .string ⟨#[]⟩, .bool false, .slice a2 0 c2], .agg #[.int .u8 0, .string ⟨#[]⟩, .bool false, .slice none 0 0, .string ⟨#[]⟩, .string ⟨#[]⟩, .bool false, .slice none 0 0]] W (SameOut W true)) := fun W a1 c1 a2 c2 => same16_any {} {} a1 a2 none none c1 c2 0 0 W (noTexts W a1) (noPms W a2) (noTexts W none) (noPms W none)
      clear HPA hdz he
      have key : (510 < line.length ∧ z = 3) ∨ (line.length ≤ 510 ∧ z = 160) ∨ (line.length ≤ 510 ∧ z = 161) := by
        rcases hbad with ⟨h1, h2⟩ | ⟨h1, h2⟩ | ⟨h1, h2⟩
        · exact .inl ⟨h2, h1⟩
        · exact .inr (.inl ⟨h2, h1⟩)
        · exact .inr (.inr ⟨h2, h1⟩)
      clear hbad h0 hzb
      generalize line.length = l2 at *
      generalize bs line = S at *
      rcases key with ⟨h1, rfl⟩ | ⟨h1, rfl⟩ | ⟨h1, rfl⟩
      all_goals
        first
        | (have hlz : (510 : Int) < (l2 : Int) := by omega
           have hld : decide ((510 : Int) < (l2 : Int)) = true := decide_eq_true hlz)
        | (have hlz : ¬ (510 : Int) < (l2 : Int) := by omega
           have hld : decide ((510 : Int) < (l2 : Int)) = false := decide_eq_false hlz)
        go_enter Tryz.func4, Tryz.ntmps4
        go_upto_region 2 with (go_at_call 11; refine HPC.out.mono ?_; rintro e w2 ⟨a1, c1, a2, c2, rfl, hb⟩; have HB2 := Lib.hid hb; clear hb)
        change Code.wp _ _ _ _ (World.alloc w2 (.cells #[.int .u8 0, .string ⟨#[]⟩, .bool false, .slice a1 0 c1, .string ⟨#[]⟩, .string ⟨#[]⟩, .bool false, .slice a2 0 c2] 29))
        obtain ⟨W3, hW3⟩ : ∃ W3, W3 = w2.alloc (.cells #[.int .u8 0, .string ⟨#[]⟩, .bool false, .slice a1 0 c1, .string ⟨#[]⟩, .string ⟨#[]⟩, .bool false, .slice a2 0 c2] 29) := ⟨_, rfl⟩
        obtain ⟨g3, hg3⟩ : ∃ g, g = w2.heap.size := ⟨_, rfl⟩
        have HK3 : Hid (Blk W3 g3 29 #[.int .u8 0, .string ⟨#[]⟩, .bool false, .slice a1 0 c1, .string ⟨#[]⟩, .string ⟨#[]⟩, .bool false, .slice a2 0 c2]) := by rw [hW3, hg3]; exact Blk.new _ _ _
        have HB3 : Hid (Below w.heap.size w W3) := by rw [hW3]; exact HB2.out.alloc HB2.out.size _
        rw [← hW3, ← hg3]
        clear hW3 hg3 HPC HB2
        obtain ⟨x0, x1, x2, x3, x4, x5, x6, x7⟩ := cells8 HK3.out
        go_wp2_with (first | (go_at_call 12; refine (HSM.out _ _ _ _ _).mono ?_; rintro e w4 ⟨rfl, hb⟩; have HB4 := Lib.hid (low_trans HB3.out hb); clear hb) | (go_at_call 10; refine (HAW.out _ HB4.out).mono ?_; rintro e wA ⟨rfl, hb⟩; have HBA := Lib.hid (low_trans HB4.out hb); clear hb))
        exact HQ.out _ HBA.out
end Go.Proofs.YtnkepdeegpampaaGreatDoor

/-
  A path that came in lies in memory, and its texts are no longer than the reading's bulk. No conditions.
-/
namespace Go.Proofs.YtnkepdeegpampaaGreatDoor
open Go.ChangeShapes Go.RowKit
variable {H : Type} {enc : TypeId × Value → H} {W : World} {fuel : Nat}

theorem zBool : Tryz.prog.cellsOf 4 = 1 := by kernel_rfl
theorem zString : Tryz.prog.cellsOf 9 = 1 := by kernel_rfl
theorem zStrings : Tryz.prog.cellsOf 22 = 1 := by kernel_rfl
theorem zBox : Tryz.prog.cellsOf 24 = 3 := by kernel_rfl
theorem zPath : Tryz.prog.cellsOf 26 = 5 := by kernel_rfl
theorem of3 {α : Type} (l : List α) (h : l.length = 3) : ∃ a0 a1 a2, l = [a0, a1, a2] := by
  match l, h with
  | [a0, a1, a2], _ => exact ⟨a0, a1, a2, rfl⟩
theorem of5 {α : Type} (l : List α) (h : l.length = 5) : ∃ a0 a1 a2 a3 a4, l = [a0, a1, a2, a3, a4] := by
  match l, h with
  | [a0, a1, a2, a3, a4], _ => exact ⟨a0, a1, a2, a3, a4, rfl⟩
theorem bulk_of : ∀ (ds : List (DataW H)) (i : Nat) (d : DataW H), ds[i]? = some d → Rows.uptoBulk d ≤ Rows.uptoBulkAll ds
  | [], i, d, h => by simp at h
  | e :: r, 0, d, h => by
    have : e = d := by simpa using h
    subst this
    rw [Rows.uptoBulkAll]
    omega
  | e :: r, i + 1, d, h => by
    have := bulk_of r i d (by simpa using h)
    rw [Rows.uptoBulkAll]
    omega
theorem open_textsB {cs : List Value} {x : DataW H × List MemPlace} (h : DataW.trod enc Tryz.prog W 0 (fun _ => true) true fuel 22 cs = some x) : ∃ a c l, cs = [.slice a (List.length l) c] ∧ TextsAt W a l ∧ l.length ≤ c ∧ ∀ s ∈ l, s.length ≤ Rows.uptoBulk x.1 := by
  rcases DataW.trod_slice Tryz.underlying22 h with ⟨hn, rfl⟩ | ⟨a, len, cap, elems, rest, m, rfl, hcs, rfl, hb, hl, hm, hlen, hel, _, _⟩
  · exact ⟨none, 0, [], hn, ⟨by decide, fun h => absurd h (by decide)⟩, Nat.le_refl _, fun s hs => (by cases hs)⟩
  · have each : ∀ i : Nat, ∃ s : ByteArray, i < len → W.cell? (a.add i) = some (.string s) ∧ ∃ y, elems[i]? = some y ∧ y.1 = .lit (.string s.data.toList) := fun i => by
      by_cases hi : i < len
      · have he := hel i hi
        rw [List.getElem?_eq_getElem (by omega), zString, Option.bind_eq_some_iff] at he
        obtain ⟨cs', hc', ht'⟩ := he
        obtain ⟨s, rfl, e2, _⟩ := DataW.trod_string Tryz.underlying9 ht'
        obtain ⟨_, _, hcell⟩ := World.cells?_some hc'
        have h0 := hcell 0 (by omega)
        refine ⟨s, fun _ => ⟨?_, _, List.getElem?_eq_getElem (by omega), by rw [e2]⟩⟩
        rw [Nat.mul_one] at h0
        have e : (a.add i).add 0 = a.add i := by unfold Addr.add; split <;> simp_all
        rw [e] at h0
        rw [h0]
        rfl
      · exact ⟨.empty, fun h => absurd h hi⟩
    obtain ⟨f, hf⟩ := Classical.axiomOfChoice each
    have hkl : ((List.range len).map fun i => (f i).data.toList).length = len := by simp
    refine ⟨some a, cap, (List.range len).map fun i => (f i).data.toList, by rw [hkl]; exact hcs, row_of a _ (by rw [List.length_map, hkl]; omega) fun i hi => ?_, by rw [hkl]; exact hl, fun s hs => ?_⟩
    · rw [List.length_map, hkl] at hi
      rw [(hf i hi).1, List.getElem_map, List.getElem_map, List.getElem_range]
      rfl
    · obtain ⟨i, hi, rfl⟩ := List.mem_map.1 hs
      have hi := List.mem_range.1 hi
      obtain ⟨_, y, h1, h2⟩ := hf i hi
      have := bulk_of (elems.map (·.1)) i y.1 (by rw [List.getElem?_map, h1]; rfl)
      rw [h2, Rows.uptoBulk] at this
      show _ ≤ Rows.uptoBulkAll (elems.map (·.1)) + Rows.uptoBulkAll (rest.map (·.1)) + 1
      omega
set_option maxRecDepth 100000 in
theorem open_box {cs : List Value} {x : DataW H × List MemPlace} (h : DataW.trod enc Tryz.prog W 0 (fun _ => true) true fuel 24 cs = some x) : ∃ (loc d : List UInt8) (lit : Bool), cs = [.string (bs loc), .string (bs d), .bool lit] ∧ loc.length ≤ Rows.uptoBulk x.1 ∧ d.length ≤ Rows.uptoBulk x.1 := by
  obtain ⟨xs, n, rfl, rfl, hl, hlen, hf⟩ := DataW.trod_struct Tryz.underlying24 h
  rw [zBox] at hl
  have hlen : xs.length = 3 := hlen
  obtain ⟨c0, c1, c2, rfl⟩ := of3 cs hl
  obtain ⟨y0, y1, y2, rfl⟩ := of3 xs hlen
  have h0 : DataW.trod enc Tryz.prog W 0 (fun _ => true) true n 9 (([c0, c1, c2].drop 0).take (Tryz.prog.cellsOf 9)) = some y0 := hf 0 _ rfl
  have h1 : DataW.trod enc Tryz.prog W 0 (fun _ => true) true n 9 (([c0, c1, c2].drop 1).take (Tryz.prog.cellsOf 9)) = some y1 := hf 1 _ rfl
  have h2 : DataW.trod enc Tryz.prog W 0 (fun _ => true) true n 4 (([c0, c1, c2].drop 2).take (Tryz.prog.cellsOf 4)) = some y2 := hf 2 _ rfl
  rw [zString] at h0 h1
  rw [zBool] at h2
  obtain ⟨s0, e0, rfl, _⟩ := DataW.trod_string Tryz.underlying9 h0
  obtain ⟨s1, e1, rfl, _⟩ := DataW.trod_string Tryz.underlying9 h1
  obtain ⟨b, e2, rfl⟩ := DataW.trod_bool Tryz.underlying4 h2
  have g0 : c0 = .string s0 := by injection e0
  have g1 : c1 = .string s1 := by injection e1
  have g2 : c2 = .bool b := by injection e2
  subst g0 g1 g2
  refine ⟨s0.data.toList, s1.data.toList, b, rfl, ?_, ?_⟩
  · show _ ≤ ((s0.data.toList.length + 1) + ((s1.data.toList.length + 1) + (Rows.uptoBulk _ + 0))) + 1
    omega
  · show _ ≤ ((s0.data.toList.length + 1) + ((s1.data.toList.length + 1) + (Rows.uptoBulk _ + 0))) + 1
    omega
set_option maxRecDepth 100000 in
theorem open_pathB {cs : List Value} {x : DataW H × List MemPlace} (h : DataW.trod enc Tryz.prog W 0 (fun _ => true) true fuel 26 cs = some x) : ∃ (P : Pa) (a : Option Addr) (c : Nat), cs = (paCells P (.slice a P.route.length c)).toList ∧ TextsAt W a P.route ∧ PaFits P (Rows.uptoBulk x.1) ∧ P.route.length ≤ c := by
  obtain ⟨xs, n, rfl, rfl, hl, hlen, hf⟩ := DataW.trod_struct Tryz.underlying26 h
  rw [zPath] at hl
  have hlen : xs.length = 3 := hlen
  obtain ⟨c0, c1, c2, c3, c4, rfl⟩ := of5 cs hl
  obtain ⟨y0, y1, y2, rfl⟩ := of3 xs hlen
  have h0 : DataW.trod enc Tryz.prog W 0 (fun _ => true) true n 4 (([c0, c1, c2, c3, c4].drop 0).take (Tryz.prog.cellsOf 4)) = some y0 := hf 0 _ rfl
  have h1 : DataW.trod enc Tryz.prog W 0 (fun _ => true) true n 22 (([c0, c1, c2, c3, c4].drop 1).take (Tryz.prog.cellsOf 22)) = some y1 := hf 1 _ rfl
  have h2 : DataW.trod enc Tryz.prog W 0 (fun _ => true) true n 24 (([c0, c1, c2, c3, c4].drop 2).take (Tryz.prog.cellsOf 24)) = some y2 := hf 2 _ rfl
  rw [zBool] at h0
  rw [zStrings] at h1
  rw [zBox] at h2
  obtain ⟨b, e0, rfl⟩ := DataW.trod_bool Tryz.underlying4 h0
  obtain ⟨a, c, l, e1, ht, hc, hb⟩ := open_textsB h1
  obtain ⟨loc, d, lit, e2, hb1, hb2⟩ := open_box h2
  have g0 : c0 = .bool b := by injection e0
  have e1' : [c1] = [Value.slice a l.length c] := e1
  have g1 : c1 = .slice a l.length c := by injection e1'
  have e2' : [c2, c3, c4] = [Value.string (bs loc), .string (bs d), .bool lit] := e2
  simp only [List.cons.injEq, and_true] at e2'
  obtain ⟨g2, g3, g4⟩ := e2'
  subst g0 g1 g2 g3 g4
  have hbulk : Rows.uptoBulk y1.1 + Rows.uptoBulk y2.1 ≤ Rows.uptoBulkAll [(DataW.lit (.bool b), ([] : List MemPlace)).1, y1.1, y2.1] := by
    simp only [Rows.uptoBulkAll]
    omega
  refine ⟨⟨b, l, loc, d, lit⟩, a, c, rfl, ht, ⟨?_, ?_, fun s hs => ?_⟩, hc⟩
  · show _ ≤ Rows.uptoBulkAll [(DataW.lit (.bool b), ([] : List MemPlace)).1, y1.1, y2.1] + 1
    show loc.length ≤ _
    omega
  · show _ ≤ Rows.uptoBulkAll [(DataW.lit (.bool b), ([] : List MemPlace)).1, y1.1, y2.1] + 1
    show d.length ≤ _
    omega
  · show _ ≤ Rows.uptoBulkAll [(DataW.lit (.bool b), ([] : List MemPlace)).1, y1.1, y2.1] + 1
    have := hb s hs
    omega
end Go.Proofs.YtnkepdeegpampaaGreatDoor

/-
  A command that came in lies in memory, and its texts are no longer than the reading's bulk; what the program's table of words holds. No conditions.
-/
namespace Go.Proofs.YtnkepdeegpampaaGreatDoor
open Go.ChangeShapes Go.RowKit
variable {H : Type} {enc : TypeId × Value → H} {W : World} {fuel : Nat}

theorem CmFits.mono {c : Cm} {n m : Nat} (h : CmFits c n) (hm : n ≤ m) : CmFits c m := ⟨Nat.le_trans h.arg hm, h.path.mono hm, fun p hp => ⟨Nat.le_trans (h.pms p hp).1 hm, Nat.le_trans (h.pms p hp).2 hm⟩⟩
theorem zU8 : Tryz.prog.cellsOf 5 = 1 := by kernel_rfl
theorem zPm : Tryz.prog.cellsOf 45 = 3 := by kernel_rfl
theorem zPms : Tryz.prog.cellsOf 27 = 1 := by kernel_rfl
theorem zCmd : Tryz.prog.cellsOf 29 = 8 := by kernel_rfl
theorem of4 {α : Type} (l : List α) (h : l.length = 4) : ∃ a0 a1 a2 a3, l = [a0, a1, a2, a3] := by
  match l, h with
  | [a0, a1, a2, a3], _ => exact ⟨a0, a1, a2, a3, rfl⟩
theorem of8 {α : Type} (l : List α) (h : l.length = 8) : ∃ a0 a1 a2 a3 a4 a5 a6 a7, l = [a0, a1, a2, a3, a4, a5, a6, a7] := by
  match l, h with
  | [a0, a1, a2, a3, a4, a5, a6, a7], _ => exact ⟨a0, a1, a2, a3, a4, a5, a6, a7, rfl⟩
set_option maxRecDepth 100000 in
theorem open_pm {cs : List Value} {x : DataW H × List MemPlace} (h : DataW.trod enc Tryz.prog W 0 (fun _ => true) true fuel 45 cs = some x) : ∃ p : Pm, cs = pmCells p ∧ p.key.length ≤ Rows.uptoBulk x.1 ∧ p.value.length ≤ Rows.uptoBulk x.1 := by
  obtain ⟨xs, n, rfl, rfl, hl, hlen, hf⟩ := DataW.trod_struct Tryz.underlying45 h
  rw [zPm] at hl
  have hlen : xs.length = 3 := hlen
  obtain ⟨c0, c1, c2, rfl⟩ := of3 cs hl
  obtain ⟨y0, y1, y2, rfl⟩ := of3 xs hlen
  have h0 : DataW.trod enc Tryz.prog W 0 (fun _ => true) true n 9 (([c0, c1, c2].drop 0).take (Tryz.prog.cellsOf 9)) = some y0 := hf 0 _ rfl
  have h1 : DataW.trod enc Tryz.prog W 0 (fun _ => true) true n 9 (([c0, c1, c2].drop 1).take (Tryz.prog.cellsOf 9)) = some y1 := hf 1 _ rfl
  have h2 : DataW.trod enc Tryz.prog W 0 (fun _ => true) true n 4 (([c0, c1, c2].drop 2).take (Tryz.prog.cellsOf 4)) = some y2 := hf 2 _ rfl
  rw [zString] at h0 h1
  rw [zBool] at h2
  obtain ⟨s0, e0, rfl, _⟩ := DataW.trod_string Tryz.underlying9 h0
  obtain ⟨s1, e1, rfl, _⟩ := DataW.trod_string Tryz.underlying9 h1
  obtain ⟨b, e2, rfl⟩ := DataW.trod_bool Tryz.underlying4 h2
  have g0 : c0 = .string s0 := by injection e0
  have g1 : c1 = .string s1 := by injection e1
  have g2 : c2 = .bool b := by injection e2
  subst g0 g1 g2
  refine ⟨⟨s0.data.toList, s1.data.toList, b⟩, rfl, ?_, ?_⟩
  · show s0.data.toList.length ≤ ((s0.data.toList.length + 1) + ((s1.data.toList.length + 1) + (Rows.uptoBulk _ + 0))) + 1
    omega
  · show s1.data.toList.length ≤ ((s0.data.toList.length + 1) + ((s1.data.toList.length + 1) + (Rows.uptoBulk _ + 0))) + 1
    omega
theorem bulk_pos (d : DataW H) : 1 ≤ Rows.uptoBulk d := by
  cases d with
  | lit x => cases x <;> simp [Rows.uptoBulk]
  | nil => simp [Rows.uptoBulk]
  | ptr d => simp [Rows.uptoBulk]
  | slice a b => simp [Rows.uptoBulk]
  | agg p => simp [Rows.uptoBulk]
  | iface t d => simp [Rows.uptoBulk]
  | map e => simp [Rows.uptoBulk]
  | held e => simp [Rows.uptoBulk]
theorem bulk_len : ∀ ds : List (DataW H), ds.length ≤ Rows.uptoBulkAll ds
  | [] => Nat.zero_le _
  | d :: ds => by
    have h1 := bulk_pos d
    have h2 := bulk_len ds
    rw [Rows.uptoBulkAll, List.length_cons]
    omega
theorem open_pmsB {cs : List Value} {x : DataW H × List MemPlace} (hbk : Rows.uptoBulk x.1 ≤ 1048576) (h : DataW.trod enc Tryz.prog W 0 (fun _ => true) true fuel 27 cs = some x) : ∃ a c l, cs = [.slice a (List.length l) c] ∧ PmsAt W a l ∧ ∀ p ∈ l, p.key.length ≤ Rows.uptoBulk x.1 ∧ p.value.length ≤ Rows.uptoBulk x.1 := by
  rcases DataW.trod_slice Tryz.underlying27 h with ⟨hn, rfl⟩ | ⟨a, len, cap, elems, rest, m, rfl, hcs, rfl, hb, hl, hm, hlen, hel, _, _⟩
  · exact ⟨none, 0, [], hn, pms_none _ _, fun s hs => (by cases hs)⟩
  · have each : ∀ i : Nat, ∃ p : Pm, i < len → (∀ r, r < 3 → W.cell? (a.add (i * 3 + r)) = (pmCells p)[r]?) ∧ ∃ y, elems[i]? = some y ∧ p.key.length ≤ Rows.uptoBulk y.1 ∧ p.value.length ≤ Rows.uptoBulk y.1 := fun i => by
      by_cases hi : i < len
      · have he := hel i hi
        rw [List.getElem?_eq_getElem (by omega), zPm, Option.bind_eq_some_iff] at he
        obtain ⟨cs', hc', ht'⟩ := he
        obtain ⟨p, rfl, e2, e3⟩ := open_pm ht'
        obtain ⟨_, _, hcell⟩ := World.cells?_some hc'
        refine ⟨p, fun _ => ⟨fun r hr => ?_, _, List.getElem?_eq_getElem (by omega), e2, e3⟩⟩
        have h0 := hcell r hr
        have e : (a.add (i * 3)).add r = a.add (i * 3 + r) := by
          unfold Addr.add
          by_cases h1 : i * 3 = 0 <;> by_cases h2 : r = 0 <;> simp [h1, h2, Nat.add_assoc]
        rw [e] at h0
        exact h0
      · exact ⟨⟨[], [], false⟩, fun h => absurd h hi⟩
    obtain ⟨f, hf⟩ := Classical.axiomOfChoice each
    have hkl : ((List.range len).map f).length = len := by simp
    refine ⟨some a, cap, (List.range len).map f, by rw [hkl]; exact hcs, row_of a _ ?_ fun j hj => ?_, fun p hp => ?_⟩
    · rw [pmFlat_len, hkl]
      have h1 := bulk_len (elems.map (·.1))
      rw [List.length_map, hlen] at h1
      have h2 : Rows.uptoBulkAll (elems.map (·.1)) + Rows.uptoBulkAll (rest.map (·.1)) + 1 ≤ 1048576 := hbk
      unfold maxLen
      omega
    · rw [pmFlat_len, hkl] at hj
      have hi : j / 3 < len := by omega
      have hjr : j = j / 3 * 3 + j % 3 := by omega
      have hk : j / 3 < ((List.range len).map f).length := by rw [hkl]; exact hi
      have h1 := (hf (j / 3) hi).1 (j % 3) (Nat.mod_lt _ (by decide))
      have h2 := pmFlat_at ((List.range len).map f) (j / 3) hk (j % 3) (Nat.mod_lt _ (by decide))
      rw [← hjr] at h1 h2
      rw [h1, ← List.getElem?_eq_getElem, h2, List.getElem_map, List.getElem_range]
    · obtain ⟨i, hi, rfl⟩ := List.mem_map.1 hp
      have hi := List.mem_range.1 hi
      obtain ⟨_, y, h1, h2, h3⟩ := hf i hi
      have := bulk_of (elems.map (·.1)) i y.1 (by rw [List.getElem?_map, h1]; rfl)
      have hh : Rows.uptoBulkAll (elems.map (·.1)) ≤ Rows.uptoBulkAll (elems.map (·.1)) + Rows.uptoBulkAll (rest.map (·.1)) + 1 := by omega
      exact ⟨Nat.le_trans h2 (Nat.le_trans this hh), Nat.le_trans h3 (Nat.le_trans this hh)⟩
set_option maxRecDepth 100000 in
theorem open_cmdB {cs : List Value} {x : DataW H × List MemPlace} (hbk : Rows.uptoBulk x.1 ≤ 1048576) (h : DataW.trod enc Tryz.prog W 0 (fun _ => true) true fuel 29 cs = some x) : ∃ (C : Cm) (a1 : Option Addr) (c1 : Nat) (a2 : Option Addr) (c2 : Nat), cs = (cmCells C (.slice a1 C.path.route.length c1) (.slice a2 C.params.length c2)).toList ∧ C.verb ≤ 255 ∧ CmIn W C a1 c1 a2 ∧ CmFits C (Rows.uptoBulk x.1) := by
  obtain ⟨xs, n, rfl, rfl, hl, hlen, hf⟩ := DataW.trod_struct Tryz.underlying29 h
  rw [zCmd] at hl
  have hlen : xs.length = 4 := hlen
  obtain ⟨c0, c1, c2, c3, c4, c5, c6, c7, rfl⟩ := of8 cs hl
  obtain ⟨y0, y1, y2, y3, rfl⟩ := of4 xs hlen
  have h0 : DataW.trod enc Tryz.prog W 0 (fun _ => true) true n 5 (([c0, c1, c2, c3, c4, c5, c6, c7].drop 0).take (Tryz.prog.cellsOf 5)) = some y0 := hf 0 _ rfl
  have h1 : DataW.trod enc Tryz.prog W 0 (fun _ => true) true n 9 (([c0, c1, c2, c3, c4, c5, c6, c7].drop 1).take (Tryz.prog.cellsOf 9)) = some y1 := hf 1 _ rfl
  have h2 : DataW.trod enc Tryz.prog W 0 (fun _ => true) true n 26 (([c0, c1, c2, c3, c4, c5, c6, c7].drop 2).take (Tryz.prog.cellsOf 26)) = some y2 := hf 2 _ rfl
  have h3 : DataW.trod enc Tryz.prog W 0 (fun _ => true) true n 27 (([c0, c1, c2, c3, c4, c5, c6, c7].drop 7).take (Tryz.prog.cellsOf 27)) = some y3 := hf 3 _ rfl
  rw [zU8] at h0
  rw [zString] at h1
  rw [zPath] at h2
  rw [zPms] at h3
  have hall : Rows.uptoBulk y0.1 + Rows.uptoBulk y1.1 + Rows.uptoBulk y2.1 + Rows.uptoBulk y3.1 ≤ Rows.uptoBulkAll [y0.1, y1.1, y2.1, y3.1] := by
    simp only [Rows.uptoBulkAll]
    omega
  have hbk2 : Rows.uptoBulkAll [y0.1, y1.1, y2.1, y3.1] + 1 ≤ 1048576 := hbk
  obtain ⟨k, e0, _, hk⟩ := DataW.trod_int Tryz.underlying5 h0
  obtain ⟨s, e1, es, _⟩ := DataW.trod_string Tryz.underlying9 h1
  obtain ⟨P, a1, cp, e2, ht, hfit, hroom⟩ := open_pathB h2
  obtain ⟨a2, cq, L, e3, hpm, hfl⟩ := open_pmsB (by omega) h3
  have g0 : c0 = .int .u8 k := by injection e0
  have g1 : c1 = .string s := by injection e1
  have g3 : c7 = .slice a2 L.length cq := by
    have e3' : [c7] = [Value.slice a2 L.length cq] := e3
    injection e3'
  have e2' : [c2, c3, c4, c5, c6] = [Value.bool P.null, .slice a1 P.route.length cp, .string (bs P.loc), .string (bs P.dom), .bool P.lit] := e2
  simp only [List.cons.injEq, and_true] at e2'
  obtain ⟨q2, q3, q4, q5, q6⟩ := e2'
  subst g0 g1 g3 q2 q3 q4 q5 q6
  have hkr : 0 ≤ k ∧ k ≤ 255 := by
    simp [Lit.wf, IntKind.min, IntKind.max, IntKind.signed, IntKind.bits] at hk
    omega
  have hkn : ((k.toNat : Nat) : Int) = k := Int.toNat_of_nonneg hkr.1
  have hsb : s.data.toList.length + 1 ≤ Rows.uptoBulk y1.1 := by rw [es]; exact Nat.le_refl _
  refine ⟨⟨k.toNat, s.data.toList, P, L⟩, a1, cp, a2, cq, ?_, ?_, ⟨ht, hroom, hpm⟩, ⟨?_, ?_, fun p hp => ?_⟩⟩
  · simp only [cmCells]
    rw [hkn]
    rfl
  · show k.toNat ≤ 255
    omega
  · show s.data.toList.length ≤ Rows.uptoBulkAll [y0.1, y1.1, y2.1, y3.1] + 1
    omega
  · show PaFits P (Rows.uptoBulkAll [y0.1, y1.1, y2.1, y3.1] + 1)
    exact hfit.mono (by omega)
  · obtain ⟨k1, k2⟩ := hfl p hp
    show p.key.length ≤ Rows.uptoBulkAll [y0.1, y1.1, y2.1, y3.1] + 1 ∧ p.value.length ≤ Rows.uptoBulkAll [y0.1, y1.1, y2.1, y3.1] + 1
    exact ⟨by omega, by omega⟩
theorem zWords : Tryz.prog.cellsOf 59 = 12 := by kernel_rfl
theorem gWords : Tryz.prog.globalNamed "franking/command.words" = some 0 := by kernel_rfl
theorem gWordsType : (Tryz.prog.globals[0]?).map (·.type) = some 59 := by kernel_rfl
/-- the table of words holds the words -/
theorem words_of {rest : List (String × DataW Unit)} (h : laidMet Tryz.prog (("franking/command.words", Rows.laid_franking_command_words) :: rest) W) : ∀ i, i < 12 → W.cell? ⟨0, i, none⟩ = some (.string (bs (wordP i))) := by
  obtain ⟨ps, ⟨g', t', cs, fuel, p, q, hg', ht', hvar, hd, _, _⟩, _⟩ := h
  obtain rfl := Option.some.inj (gWords.symm.trans hg')
  obtain rfl := Option.some.inj (gWordsType.symm.trans ht')
  intro i hi
  rw [World.var?_cell gWords hvar i]
  obtain ⟨xs, m, rfl, hx, hl, hlen, hf⟩ := DataW.trod_array Tryz.underlying59 hd
  have hi2 := hf i hi
  rw [zString, Nat.mul_one] at hi2
  have hxs : xs.map (·.1) = wordsV.map fun s => (DataW.lit (.string s) : DataW Unit) := by
    have := congrArg Prod.fst hx
    have e : (Rows.laid_franking_command_words : DataW Unit) = .agg (wordsV.map fun s => (DataW.lit (.string s) : DataW Unit)) := rfl
    rw [e] at this
    exact (DataW.agg.inj this).symm
  have hxi : i < xs.length := by omega
  rw [List.getElem?_eq_getElem hxi] at hi2
  obtain ⟨s, e1, e2, _⟩ := DataW.trod_string Tryz.underlying9 hi2
  have h1 : cs.toList[i]? = some (.string s) := by
    have := congrArg (·[0]?) e1
    simpa [List.getElem?_take, List.getElem?_drop] using this
  have h2 : (xs.map (·.1))[i]? = some (DataW.lit (.string s.data.toList)) := by
    rw [List.getElem?_map, List.getElem?_eq_getElem hxi, e2]
    rfl
  rw [hxs, List.getElem?_map] at h2
  have hw : wordsV[i]? = some (wordP i) := by
    unfold wordP
    rw [List.getD_eq_getElem?_getD]
    have hlw : i < wordsV.length := hi
    rw [List.getElem?_eq_getElem hlw]
    rfl
  rw [hw] at h2
  have h3 : wordP i = s.data.toList := by
    rw [Option.map_some] at h2
    exact Lit.string.inj (DataW.lit.inj (Option.some.inj h2))
  rw [← Array.getElem?_toList, h1, h3]
  rfl
end Go.Proofs.YtnkepdeegpampaaGreatDoor

/-
  CommandAgain answers true, and leaves its arguments as they were, for every input: the row, and the tied card. Conditions: the listed variables as the library's text lays them (the card ties them).
-/
namespace Go.Proofs.YtnkepdeegpampaaGreatDoor.commandAgain
open Go.ChangeShapes Go.WideShapes Go.ChangeAt Go.RowKit
open Go.ChangeMaps (open_string shut_string)

theorem own : ownKnob Tryz.prog.godebug = none := by kernel_rfl
theorem laidOut : laidOutB Tryz.prog = true := by kernel_rfl
theorem gEs : Tryz.prog.globalNamed "strconv.ErrSyntax" = some ErrG := by kernel_rfl
theorem gEsType : (Tryz.prog.globals[ErrG]?).map (·.type) = some 70 := by kernel_rfl
theorem cellsE : Tryz.prog.cellsOf 148 = 1 := by kernel_rfl
theorem cellsS : Tryz.prog.cellsOf 9 = 1 := by kernel_rfl
theorem star : "*" ++ "errors.errorString" = "*errors.errorString" := by decide
theorem rowE (u : TypeId) (h : Tryz.prog.typeName? 3 u = some "*errors.errorString") : u = 146 :=
  typeName_ptr_named (nm := "errors.errorString") (by rw [star]; kernel_rfl) (by kernel_rfl) (by decide) u (by rw [star]; exact h)
theorem env_of_laid {W : World} (h : laidMetH Tryz.prog Rows.commandAgainRow.laid W) (hS : W.ShapedOpen Tryz.prog) : Env W := by
  rw [MakeChecks.laidMetH_plain _ _ _ (by kernel_rfl)] at h
  have h' : laidMet Tryz.prog [("math/bits.deBruijn32tab", Rows.laid_math_bits_deBruijn32tab), ("math/bits.deBruijn64tab", Rows.laid_math_bits_deBruijn64tab), ("internal/strconv.uint64pow10", Rows.laid_internal_strconv_uint64pow10), ("unicode/utf8.acceptRanges", Rows.laid_unicode_utf8_acceptRanges), ("strconv.ErrRange", Rows.laid_strconv_ErrRange), ("strconv.ErrSyntax", Rows.laid_strconv_ErrSyntax), ("franking/command.words", Rows.laid_franking_command_words), ("unicode/utf8.first", Rows.laid_unicode_utf8_first)] W := h
  obtain ⟨a0, s0, hv0, -, -, -⟩ := laid_sentinel h'.tail.tail.tail.tail.tail gEs gEsType Tryz.underlying70 rowE Tryz.underlying146 Tryz.underlying148 rfl rfl Tryz.underlying9 cellsE cellsS
  have h0 : W.cell? ⟨ErrG, 0, none⟩ = some (.iface 146 (.pointer (some a0))) := by have h0 := World.var?_cell gEs hv0 0; simpa using h0
  obtain ⟨mx, hmx⟩ := cell_of_shapedOpen_int (g := 1) (zero := #[.int .i64 0]) (t := 3) hS (of_decide_eq_true (by kernel_rfl)) (by kernel_rfl) rfl (by kernel_rfl) (by kernel_rfl) Tryz.underlying3
  exact ⟨⟨⟨_, h0, Or.inr ⟨_, _, rfl⟩⟩, World.block_lt_of_cell? _ _ h0⟩, ⟨mx, hmx⟩, words_of h'.tail.tail.tail.tail.tail.tail⟩
theorem bs_self (s : ByteArray) : bs s.data.toList = s := rfl

abbrev inp : Array Value := #[.string .empty]
theorem reads (os : Os) {H : Type} (enc : TypeId × Value → H) : ∃ places, DataW.whole enc Tryz.prog ((World.laidAll Tryz.prog os Rows.commandAgainRow.laid).forCall (fun _ _ => 0) ⟨#[], inp, []⟩).memory Tryz.f4.params.toList Rows.commandAgainSpec.vars false inp.toList 8 = some ([.lit (.string [])], [], places) :=
  ⟨[], by kernel_rfl⟩

set_option maxRecDepth 100000 in
theorem contract (H : Type) (enc : TypeId × Value → H) (W : World) (base : Nat) (args : Array Value) (ds gs : List (DataW H)) (before : List MemPlace)
    (hval0 : ∀ (j : Nat) t v, Tryz.f4.params[j]? = some t → args[j]? = some v → Value.okWide Tryz.prog W .any base t v)
    (hW : DataW.Whole enc Tryz.prog Tryz.f4.params.toList Rows.commandAgainSpec.vars false W args.toList ds gs before) (hL : laidMetH Tryz.prog Rows.commandAgainRow.laid W) (hS : W.ShapedOpen Tryz.prog) :
    Calls Tryz.prog 4 args W fun e W' => ∃ v, e = .returned v ∧ Rows.commandAgainSpec.post enc Tryz.prog Tryz.f4 false true false false W args v W' := by
  have hval : ∀ (j : Nat) t v, Tryz.f4.params[j]? = some t → args[j]? = some v → Value.okWide Tryz.prog W .any base t v := hval0
  have hW' := hW
  obtain ⟨p, q, hA0, hV, rfl, _, _⟩ := hW
  have hA : DataW.TrodAll enc Tryz.prog W 0 (fun _ => true) true Tryz.f4.params.toList args.toList ds p := hA0
  rw [Tryz.params4] at hA hval
  obtain ⟨v0, vs0, d0, ds0, p0, q0, hargs, rfl, rfl, h0, r0⟩ := trodAll_cons hA
  obtain ⟨rfl, rfl, rfl⟩ := trodAll_nil r0
  obtain rfl : args = #[v0] := by cases args; simp_all
  obtain ⟨rfl, rfl⟩ := trodVars_none hV
  obtain ⟨s0, rfl, rfl, rfl, hmax0⟩ := open_string Tryz.underlying9 (hval 0 9 v0 rfl rfl) h0
  have htz := env_of_laid hL hS
  clear hA0 hval0
  refine (again16_any s0.data.toList (by have h : s0.size ≤ maxLen := hmax0; rw [Array.length_toList]; exact h) W htz).mono fun e W' ⟨he, bel⟩ => ?_
  subst he
  exact ⟨_, rfl, _, _, _, [], _, [], hW', trodAll_mk1 (shut_bool Tryz.underlying4 _), (trodAll_cons_mk (shut_string Tryz.underlying9 hmax0) trodAll_mk0), rfl, bel.frame _, fun h => by cases h⟩

set_option maxRecDepth 100000 in
theorem lifted (os : Os) (started : os.Started) (H : Type) (enc : TypeId × Value → H) (J : Stop.Interp) :
    ReturnsInHanded {} Tryz.checked os 4 .any ((OpenSpec.ofChange Rows.commandAgainSpec).preRow enc Tryz.prog Tryz.f4 Rows.commandAgainRow.domain false Rows.commandAgainRow.laid) (((OpenSpec.ofChange Rows.commandAgainSpec).at J).post enc Tryz.prog Tryz.f4 false true false false) := by
  obtain ⟨places, hx⟩ := reads os enc
  have hok : Input.okWideB Tryz.prog ((World.laidAll Tryz.prog os Rows.commandAgainRow.laid).forCall (fun _ _ => 0) ⟨#[], inp, []⟩) 4 ⟨#[], inp, []⟩ = true := by kernel_rfl
  refine returnsInHanded_of_row (C := Tryz.checked) (s := OpenSpec.ofChange Rows.commandAgainSpec) own started (by kernel_rfl) Tryz.func4
    ⟨World.laidAll Tryz.prog os Rows.commandAgainRow.laid, fun _ _ => 0, ⟨#[], inp, []⟩, World.laidAll_os _ _ _, World.shaped_of_ZipB (by kernel_rfl) (by kernel_rfl), rfl, (Input.okWide_of_okWideB hok).2,
      OpenSpec.preRow_of_cond 8 hx (by kernel_rfl) (fun k hk => by cases hk) (by kernel_rfl) (by rw [MakeChecks.laidMetH_plain _ _ _ (by kernel_rfl)]; exact laidMet_laidAll _ (by kernel_rfl) (by kernel_rfl)), by
        simp only [Assume.holds]
        exact ⟨by simp, by simp, fun _ => Modest.zero, by simp, by simp⟩⟩ ?_
  intro W base args ds gs before hval hW _ _ _ hL hS _
  exact contract H enc W base args ds gs before hval hW hL hS

theorem holds : Rows.CommandAgainSaid :=
  OpenClaim.holds_of_cond 4 Tryz.f4 rfl rfl rfl rfl rfl rfl rfl ⟨rfl, rfl, rfl, rfl, rfl⟩ rfl rfl rfl rfl rfl (by kernel_rfl) Tryz.func4 (by kernel_rfl)
    (of_decide_eq_true (by kernel_rfl)) (by unfold Func.isWrapper; first | (rw [if_pos (by decide +kernel)]; kernel_rfl) | (rw [if_neg (by decide +kernel)]; exact ⟨rfl, rfl⟩))
    (fun os started H enc _ J => by rw [OpenClaim.pre_eq_preRow]; exact lifted os started H enc J)
theorem card_holds : Rows.CommandAgainCardSaid :=
  Claim7.holds_tied_plain_at .later [] [.data, .data, .data, .data, .sentinel, .sentinel, .data, .pinned] true Rows.commandAgainCard.stood.harness true holds (fun _ h => by cases h) (by kernel_rfl) (fun _ h => by cases h) commandAgain_row_tie rfl ⟨rfl, rfl⟩ (by kernel_rfl) rfl
    (fun f fn hf hfn => by
      obtain rfl : f = 4 := Option.some.inj ((show Tryz.prog.funcNamed "franking/frankinglaw16.CommandAgain" = some 4 by kernel_rfl).symm.trans hf) |>.symm
      obtain rfl : fn = Tryz.f4 := (Option.some.inj (Tryz.func4.symm.trans hfn)).symm
      exact ⟨by kernel_rfl, fun j t ht => by
        rw [Tryz.params4] at ht
        have hm : t ∈ [9] := by simpa using Array.mem_of_getElem? ht
        have hall : ([9].all fun u => !Tryz.prog.wantsStandIn u) = true := by kernel_rfl
        exact (show Tryz.prog.wantsStandIn t = false by simpa using List.all_eq_true.1 hall t hm)⟩)
    (by kernel_rfl)
end Go.Proofs.YtnkepdeegpampaaGreatDoor.commandAgain
