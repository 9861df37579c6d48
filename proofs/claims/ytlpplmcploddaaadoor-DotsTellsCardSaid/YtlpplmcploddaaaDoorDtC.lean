/-
  The contract of dots.lines and of its iterator: the lines of bytes, each with whether it has an end. Conditions: the bytes lie in memory, fewer than 4294967281 of them; the library's MaxLen holds some number.
-/
import Derived.Test.YtlpplmcploddaaaDoorDtB
import Derived.Test.YtlpplmcploddaaaDoorDtQ
import Derived.RangeFuncBox
import Derived.RangeFuncLeaves
import Derived.RangeFuncNested
import Derived.RangeFuncBound
import Derived.Shelf.RegionOpen
import Derived.OwnWalkIn
import Derived.TacticsInMore
import Derived.LoopNIn
import Derived.LoopIn
import Derived.Maps.OwnIn
namespace Go.Proofs.YtlpplmcploddaaaDoor
open Go.RowKit Go.Shelf

attribute [local go_sem] Oper.semAt_some

abbrev ItmF (b : List UInt8) := { x : Itm // FitD b x }
def lenOfV : Value → Nat
  | .slice _ n _ => n
  | _ => 0
theorem grown_drewN {W W' : World} (h : W.grownBy W' none) (n : Nat) : W.grownBy (W'.drewN n) none := ⟨h.os, h.tape, h.output, h.size, h.block⟩
theorem fit_of {b l r : List UInt8} {o : Nat} (e : b.drop o = l ++ r) (f : Bool) : FitD b (o, l, f) := by
  unfold FitD
  simp only
  rw [e, List.take_append_of_le_length (Nat.le_refl _), List.take_length]
set_option maxRecDepth 100000 in
set_option maxHeartbeats 4000000 in
theorem lines1_in (n : Nat) (hn : 1 ≤ n) (l Bx B0 g off : Nat) (b : List UInt8) (m : Nat) (hm : b.length = m) (hm2 : m < 4294967281) (a : Option Addr) (c : Nat) (hc : m ≤ c) (mx : Int) (J Jx : List (ItmF b) → World → Prop) (W : World)
    (hbx : Blk W Bx 22 #[.slice a m c]) (hB : B0 ≤ W.heap.size) (hmx : W.cell? ⟨0, 0, none⟩ = some (.int .i64 mx)) (hg : 0 < B0)
    (hrow : 0 < m → a = some ⟨g, off, none⟩ ∧ g < B0 ∧ ∀ j (h : j < b.length), W.cell? ⟨g, off + j, none⟩ = some (byteV b[j]))
    (hJ : AbidesFrom W.heap.size J)
    (hY : ∀ pre (x : ItmF b) W1, J pre W1 → pre.length < m → YieldAt Fence.wide (n - 1) Tryd.prog l #[.slice (some ⟨g, off + x.1.1, none⟩) x.1.2.1.length (c - x.1.1), .bool x.1.2.2] W1 fun e W' =>
      (e = .returned (.bool true) ∧ J (pre ++ [x]) W' ∧ Below B0 W1 W') ∨ (e = .returned (.bool false) ∧ Jx (pre ++ [x]) W'))
    (h0 : J [] W) :
    CallsIn Fence.wide n Tryd.prog 21 #[.func (.yield l) #[] #[], .pointer (some ⟨Bx, 0, none⟩)] W fun e W' => (∃ v, e = .returned v) ∧
      ((∃ ys : List (ItmF b), ys.map (·.1) = itemsD 0 b ∧ J ys W') ∨ (∃ pre : List (ItmF b), pre.map (·.1) <+: itemsD 0 b ∧ Jx pre W')) := by
  have b0 := hbx.cell 0
  simp at b0
  refine callsIn_of_wp Tryd.func21 rfl trivial ?_ rfl
  simp only [Tryd.ntmps21, List.size_toArray, List.length_cons, List.length_nil, Nat.reduceAdd, Nat.reduceSub, Array.replicate_succ, Array.replicate_zero, List.push_toArray, List.append_toArray, List.nil_append, List.cons_append]
  have HROW := Lib.hid hrow
  have HMX := Lib.hid hmx
  have HY := Lib.hid hY
  have H0 := Lib.hid h0
  have HJ := Lib.hid hJ
  have HM := Lib.hid hm
  have HG := Lib.hid hg
  have HB := Lib.hid hB
  clear hbx hrow hY h0 hJ hmx hm hg hB
  gi_wp2
  gi_loopw [3] (fun v wr => ∃ (o k cc : Nat) (p : Option Addr) (pre : List (ItmF b)), v = .slice p k cc ∧ k = m - o ∧ o ≤ m ∧ Hid (0 < k → p = some ⟨g, off + o, none⟩ ∧ cc = c - o) ∧ Hid (pre.map (·.1) ++ itemsD o (b.drop o) = itemsD 0 b) ∧ Hid (J pre wr) ∧ Hid (Below B0 W wr)) (fun v _ => lenOfV v)
  case atStart => exact ⟨0, m, c, a, [], rfl, rfl, Nat.zero_le _, fun h => ⟨(HROW.out h).1, rfl⟩, rfl, H0.out, Below.refl _ _⟩
  case round =>
    obtain ⟨o, k, cc, p, pre, rfl, hk, ho, HP, HPRE, HJS, HBW⟩ := hrel
    by_cases hlt : 0 < k
    · obtain ⟨rfl, rfl⟩ := HP.out hlt
      obtain ⟨-, hgB, hcell⟩ := HROW.out (by omega)
      have hxl : (b.drop o).length = k := by rw [List.length_drop, HM.out, hk]
      have hbytes : BytesAt wr (some ⟨g, off + o, none⟩) (b.drop o) := by
        refine ⟨by rw [List.length_map, hxl]; unfold maxLen; omega, fun _ => ⟨g, off + o, rfl, Nat.lt_of_lt_of_le hgB (Nat.le_trans HB.out HBW.out.size), fun j hj => ?_⟩⟩
        rw [List.length_map] at hj
        rw [HBW.out.cell (p := ⟨g, off + o + j, none⟩) hgB, Nat.add_assoc, hcell (o + j) (by rw [HM.out]; omega), List.getElem_map, List.getElem_drop]
      have hb1 : Below wr.heap.size wr (wr.alloc (.cells #[.int .u8 13, .int .u8 10] 5 (2, 3))) := (Below.refl _ _).alloc (Nat.le_refl _) _
      have hbytes1 := RowAt.below hbytes hb1
      have hlit := lit_bytes wr [13, 10] #[.int .u8 13, .int .u8 10] (2, 3) rfl (by decide)
      have hmx1 : (wr.alloc (.cells #[.int .u8 13, .int .u8 10] 5 (2, 3))).cell? ⟨0, 0, none⟩ = some (.int .i64 mx) :=
        ((((HBW.out.alloc (Nat.le_trans HB.out HBW.out.size) _)).cell (p := ⟨0, 0, none⟩) HG.out)).trans HMX.out
      have hcv := Joins.run_convert_bytes_const_at (P := Tryd.prog) wr 22 5 #[.int .u8 13, .int .u8 10] 2 2 wr.heap.size rfl Tryd.underlying22 Tryd.underlying5
      have HST : Hid (∀ q, J pre ((wr.alloc (.cells #[.int .u8 13, .int .u8 10] 5 (2, 3))).drewN q)) := fun q => HJ.out pre wr _ none HJS.out (grown_drewN (World.grownBy_alloc wr _ none) q) (fun r e => by cases e)
      have HLO : Hid (∀ q, Below B0 W ((wr.alloc (.cells #[.int .u8 13, .int .u8 10] 5 (2, 3))).drewN q)) := fun q => below_drewN (HBW.out.alloc (Nat.le_trans HB.out HBW.out.size) _) q
      have hkm : k ≤ c - o := by omega
      have HK := Lib.hid hk
      have hlt' : (0 : Int) < (k : Int) := by omega
      have hfew := items_few 0 b
      have HFEW := Lib.hid hfew
      have HXL := Lib.hid hxl
      clear hfew hcell hbytes hb1
      rcases two_ways (b.drop o) with hne | ⟨l1, r1, he, hl1⟩
      · have HC := Lib.hid (cut_no (some ⟨g, off + o, none⟩) (c - o) (b.drop o) k HXL.out.symm (some ⟨wr.heap.size, 0, none⟩) 2 mx _ hbytes1 hlit hne hkm (by omega) (fun h => by cases h) hmx1)
        have hx0 : b.drop o ≠ [] := fun h => by rw [h] at hxl; simp at hxl; omega
        have HI := Lib.hid (items_none o (b.drop o) hne hx0)
        have HF : Hid (FitD b (o, b.drop o, false)) := fit_of (r := []) (by simp) false
        clear hne hx0 hxl hbytes1 hlit hmx1 hk
        gi_wp2_with (refine ⟨trivial, ?_⟩; gi_at_call 22; refine (callsIn_wide.2 HC.out).mono ?_; rintro e w1 ⟨rfl, q, rfl⟩; clear HC hcv; have hY2 := HY.out pre ⟨(o, b.drop o, false), HF.out⟩ _ (HST.out q) (by have h1 := congrArg List.length HPRE.out; rw [HI.out] at h1; have h2 := HFEW.out; have h3 := HM.out; simp at h1; omega); obtain ⟨fn, tmps, assign, body, hy, hR⟩ := hY2; simp only [HXL.out] at hy hR; clear HXL)
        refine hR.mono ?_
        rintro e W3 (⟨rfl, hJ3, hk3⟩ | ⟨rfl, hJx3⟩)
        · have HJ3 := Lib.hid hJ3
          have HK3 : Hid (Below B0 W W3) := (HLO.out q).trans hk3
          clear hR hy hJ3 hk3
          gi_wp2
          refine ⟨⟨m, 0, 0, none, pre ++ [⟨(o, b.drop o, false), HF.out⟩], rfl, by omega, Nat.le_refl _, fun h => absurd h (by decide), ?_, HJ3, HK3⟩, ?_⟩
          · have h1 := HPRE.out
            rw [HI.out] at h1
            have h2 : itemsD m (b.drop m) = [] := by rw [List.drop_of_length_le (by rw [HM.out]; omega), items_nil]
            show List.map _ _ ++ itemsD m (b.drop m) = _
            rw [h2, ← h1, List.map_append, List.append_nil]
            rfl
          · show 0 < k
            exact hlt
        · clear hR hy
          gi_wp2
          refine bodyPost_ret (results_none rfl _ _ _) rfl ?_
          refine ⟨⟨_, rfl⟩, .inr ⟨_, ?_, hJx3⟩⟩
          have h1 := HPRE.out
          rw [HI.out] at h1
          rw [← h1, List.map_append]
          exact ⟨[], List.append_nil _⟩
      · have hkl : k = (l1 ++ 13 :: 10 :: r1).length := by rw [← he]; exact HXL.out.symm
        have HC := Lib.hid (cut_yes (some ⟨g, off + o, none⟩) (c - o) l1 r1 k hkl (some ⟨wr.heap.size, 0, none⟩) 2 mx _ (by rw [← he]; exact hbytes1) hlit hl1 hkm (by omega) (fun h => by cases h) hmx1)
        have HI : Hid (itemsD o (b.drop o) = (o, l1, true) :: itemsD (o + l1.length + 2) (b.drop (o + (l1.length + 2)))) := by
          show _ = _
          have h2 : b.drop (o + (l1.length + 2)) = r1 := by rw [← List.drop_drop, he, drop_line]
          rw [h2, he, items_cons o l1 r1 hl1]
        have HF : Hid (FitD b (o, l1, true)) := fit_of he true
        have hk2 : k = l1.length + (r1.length + 2) := by rw [hkl]; simp
        obtain ⟨q1, hq1⟩ : ∃ q1, q1 = l1.length := ⟨_, rfl⟩
        rw [← hq1] at HC HI hk2
        have HQ1 := Lib.hid hq1
        have HK2 : Hid (k = q1 + (r1.length + 2)) := hk2
        clear he hkl hq1 hl1 hxl hbytes1 hlit hmx1 hk hk2
        gi_wp2_with (refine ⟨trivial, ?_⟩; gi_at_call 22; refine (callsIn_wide.2 HC.out).mono ?_; rintro e w1 ⟨rfl, q, rfl⟩; clear HC hcv; have hY2 := HY.out pre ⟨(o, l1, true), HF.out⟩ _ (HST.out q) (by have h1 := congrArg List.length HPRE.out; rw [HI.out] at h1; have h2 := HFEW.out; have h3 := HM.out; simp at h1; omega); obtain ⟨fn, tmps, assign, body, hy, hR⟩ := hY2; simp only [← HQ1.out] at hy hR)
        refine hR.mono ?_
        rintro e W3 (⟨rfl, hJ3, hk3⟩ | ⟨rfl, hJx3⟩)
        · have HJ3 := Lib.hid hJ3
          have HK3 : Hid (Below B0 W W3) := (HLO.out q).trans hk3
          clear hR hy hJ3 hk3
          gi_wp2
          refine ⟨⟨o + q1 + 2, k - (q1 + 2), c - o - (q1 + 2), behindA (some ⟨g, off + o, none⟩) (c - o) (q1 + 2), pre ++ [⟨(o, l1, true), HF.out⟩], rfl, ?_, ?_, ?_, ?_, HJ3, HK3⟩, ?_⟩
          · have := HK.out; omega
          · have := HK.out; have := HK2.out; omega
          · show 0 < k - (q1 + 2) → _ ∧ _
            intro h3
            refine ⟨?_, by omega⟩
            unfold behindA
            rw [if_neg (by omega), Option.map_some, Addr.add_mid]
            rw [show off + o + (q1 + 2) = off + (o + q1 + 2) by omega]
          · have h1 := HPRE.out
            rw [HI.out] at h1
            show List.map _ _ ++ itemsD (o + q1 + 2) (b.drop (o + q1 + 2)) = _
            have h2 : itemsD (o + q1 + 2) (b.drop (o + (q1 + 2))) = itemsD (o + q1 + 2) (b.drop (o + q1 + 2)) := by rw [Nat.add_assoc]
            rw [← h1, ← h2, List.map_append, List.append_assoc]
            rfl
          · show k - (q1 + 2) < k
            omega
        · clear hR hy
          gi_wp2
          refine bodyPost_ret (results_none rfl _ _ _) rfl ?_
          refine ⟨⟨_, rfl⟩, .inr ⟨_, ?_, hJx3⟩⟩
          have h1 := HPRE.out
          rw [HI.out] at h1
          rw [← h1, List.map_append]
          exact ⟨itemsD (o + q1 + 2) (b.drop (o + (q1 + 2))), by rw [List.append_assoc]; rfl⟩
    · have hk0 : k = 0 := by omega
      subst hk0
      have hom : o = m := by omega
      have HPR : Hid (pre.map (·.1) = itemsD 0 b) := by
        have := HPRE.out
        rw [List.drop_of_length_le (by rw [HM.out]; omega), items_nil, List.append_nil] at this
        exact this
      clear hk ho hom hlt
      gi_wp2
      go_end0
      exact ⟨⟨_, rfl⟩, .inl ⟨_, HPR.out, HJS.out⟩⟩
/-- the iterator's contract, in the caller's form -/
theorem lines_seq (n : Nat) (hn : 1 ≤ n) (Bx B0 g off : Nat) (b : List UInt8) (m : Nat) (hm : b.length = m) (hm2 : m < 4294967281) (a : Option Addr) (c : Nat) (hc : m ≤ c) (mx : Int) (w : World)
    (hbx : Blk w Bx 22 #[.slice a m c]) (hB : B0 ≤ w.heap.size) (hmx : w.cell? ⟨0, 0, none⟩ = some (.int .i64 mx)) (hg : 0 < B0)
    (hrow : 0 < m → a = some ⟨g, off, none⟩ ∧ g < B0 ∧ ∀ j (h : j < b.length), w.cell? ⟨g, off + j, none⟩ = some (byteV b[j])) :
    SeqStopsK Fence.wide n Tryd.prog 21 #[.pointer (some ⟨Bx, 0, none⟩)] (fun x : ItmF b => #[.slice (some ⟨g, off + x.1.1, none⟩) x.1.2.1.length (c - x.1.1), .bool x.1.2.2]) (Below B0) (fun ys => ys.map (·.1) = itemsD 0 b) (fun pre => pre.map (·.1) <+: itemsD 0 b) m w := by
  intro l J Jx W hW hJ _ hY h0
  refine lines1_in n hn l Bx B0 g off b m hm hm2 a c hc mx J Jx W (hbx.below hW hbx.lt) (Nat.le_trans hB hW.size) ((hW.cell (p := ⟨0, 0, none⟩) (by show 0 < _; omega)).trans hmx) hg (fun h => ?_) hJ (fun pre x W1 h1 h3 => hY pre x W1 h1 h3) h0
  obtain ⟨e1, e2, e3⟩ := hrow h
  exact ⟨e1, e2, fun j hj => (hW.cell (p := ⟨g, off + j, none⟩) (by show g < _; omega)).trans (e3 j hj)⟩
set_option maxRecDepth 100000 in
theorem lines_any (a : Option Addr) (q c : Nat) (w : World) :
    Calls Tryd.prog 15 #[.slice a q c] w fun e w' => e = .returned (.func (.func 21) #[] #[.pointer (some ⟨w.heap.size, 0, none⟩)]) ∧ w' = w.alloc (.cells #[.slice a q c] 22) := by
  go_enter Tryd.func15, Tryd.ntmps15
  go_wp2
  go_ret
  exact ⟨rfl, rfl⟩
end Go.Proofs.YtlpplmcploddaaaDoor
