/-
  The contract of nfa.Build: the machine of some trees in plain terms, or the error. Conditions: the trees lie in memory; at most 100000 nodes.
-/
import Derived.Test.YtdckjjkaoecgaaaDoorNbW
import Derived.Test.YtdckjjkaoecgaaaDoorRnR
namespace Go.Proofs.YtdckjjkaoecgaaaDoor
open Go.RowKit Go.Shelf

/-- what Build answers -/
def buildP (ls : List Ry) (most : Int) : Int × List NS × Int :=
  if 1 ≤ ls.length ∧ ls.length ≤ 200 ∧ 1 ≤ most ∧ most ≤ 20000 ∧ ls.all rightR = true then (if most < ((machineP ls).2.length : Int) then (0, [], 40) else ((machineP ls).1, (machineP ls).2, 0)) else (0, [], 2)
theorem build_bad {ls : List Ry} {most : Int} (h : ¬ (1 ≤ ls.length ∧ ls.length ≤ 200 ∧ 1 ≤ most ∧ most ≤ 20000 ∧ ls.all rightR = true)) : buildP ls most = (0, [], 2) := by unfold buildP; rw [if_neg h]
theorem build_good {ls : List Ry} {most : Int} (h : 1 ≤ ls.length ∧ ls.length ≤ 200 ∧ 1 ≤ most ∧ most ≤ 20000 ∧ ls.all rightR = true) : buildP ls most = if most < ((machineP ls).2.length : Int) then (0, [], 40) else ((machineP ls).1, (machineP ls).2, 0) := by unfold buildP; rw [if_pos h]
/-- a machine in memory -/
structure NfaAt (w : World) (B : Nat) (v : Value) (st : List NS) : Prop where
  own : w.ownsRow B 56 8 v st.length (st.flatMap nsCells)
theorem own_lower {W : World} {B B' z n : Nat} {e : TypeId} {v : Value} {xs : List Value} (h : W.ownsRow B e z v n xs) (hB : B' ≤ B) : W.ownsRow B' e z v n xs := by
  refine ⟨h.1, ?_⟩
  rcases h.2 with h0 | ⟨g, cap, cur, e1, hg, r⟩
  · exact .inl h0
  · exact .inr ⟨g, cap, cur, e1, Nat.le_trans hB hg, r⟩
def BuildOut (w : World) (P : Int × List NS × Int) (e : Ending) (w' : World) : Prop :=
  ∃ v, e = .returned (.tuple #[.agg #[.int .i64 P.1, v], .int .i64 P.2.2]) ∧ Below w.heap.size w w' ∧ w'.ownsRow w.heap.size 56 8 v P.2.1.length (P.2.1.flatMap nsCells)
set_option maxRecDepth 100000 in
set_option maxHeartbeats 8000000 in
theorem build_any (a : Option Addr) (c : Nat) (ls : List Ry) (most : Int) (w : World) (hr : RyIn w (· < w.heap.size) a c ls) (hN : (preL ls).length ≤ 100000) :
    Calls Tryd.prog 12 #[.slice a ls.length c, .int .i64 most] w fun e w' => BuildOut w (buildP ls most) e w' := by
  have HR := Lib.hid hr
  have HNN := Lib.hid hN
  have hq2 := hr.len.1
  unfold maxLen at hq2
  obtain ⟨q, hq⟩ : ∃ q, q = ls.length := ⟨_, rfl⟩
  have HQ := Lib.hid hq
  rw [← hq] at hq2 ⊢
  obtain ⟨P, hP⟩ : ∃ P, P = buildP ls most := ⟨_, rfl⟩
  have HPB : Hid (¬ (1 ≤ q ∧ q ≤ 200 ∧ 1 ≤ most ∧ most ≤ 20000 ∧ ls.all rightR = true) → P = (0, [], 2)) := fun h => by rw [hP]; exact build_bad (by rw [← hq]; exact h)
  have HPG : Hid (1 ≤ q ∧ q ≤ 200 ∧ 1 ≤ most ∧ most ≤ 20000 ∧ ls.all rightR = true → P = if most < ((machineP ls).2.length : Int) then (0, [], 40) else ((machineP ls).1, (machineP ls).2, 0)) := fun h => by rw [hP]; exact build_good (by rw [← hq]; exact h)
  rw [← hP]
  clear hr hN hq hP
  have HERR : Hid (∀ W b, Below w.heap.size w W → P = (0, [], b) → BuildOut w P (.returned (.tuple #[.agg #[.int .i64 0, .slice none 0 0], .int .i64 b])) W) := fun W b hb hp => ⟨.slice none 0 0, by rw [hp], hb, by rw [hp]; exact World.ownsRow_nil _ _ _ _⟩
  have HB0 : Hid (Below w.heap.size w (w.alloc (.cells #[.int .i64 0, .slice none 0 0] 25)) ∧ Blk (w.alloc (.cells #[.int .i64 0, .slice none 0 0] 25)) w.heap.size 25 #[.int .i64 0, .slice none 0 0]) := ⟨(Below.refl _ _).alloc (Nat.le_refl _) _, Blk.new _ _ _⟩
  go_enter Tryd.func12, Tryd.ntmps12
  by_cases hg : 1 ≤ q ∧ q ≤ 200 ∧ 1 ≤ most ∧ most ≤ 20000
  · obtain ⟨g1, g2, g3, g4⟩ := hg
    have d1 : ¬ (q : Int) < 1 := by omega
    have d2 : ¬ (200 : Int) < q := by omega
    have d3 : ¬ most < 1 := by omega
    have d4 : ¬ 20000 < most := by omega
    go_wp2
    all_goals first | (exfalso; omega) | skip
    go_loopw [29] (fun i wr => ∃ k : Nat, k ≤ q ∧ i = .int .i64 k ∧ Hid (∀ t ∈ ls.take k, rightR t = true) ∧ Hid (Below w.heap.size w wr ∧ Blk wr w.heap.size 25 #[.int .i64 0, .slice none 0 0])) (fun i _ => q - (intOf i).toNat)
    case atStart => exact ⟨0, Nat.zero_le _, rfl, fun t ht => by simp at ht, HB0.out⟩
    case round =>
      obtain ⟨k, hk, rfl, HA, HB⟩ := hrel
      by_cases hlt : k < q
      · have hlt' : (k : Int) < q := by omega
        have h0' : (0 : Int) ≤ k := by omega
        have hko : k < ls.length := by rw [← HQ.out]; exact hlt
        have hkx := HR.out.at_ hko
        obtain ⟨b, off, rfl, hbl, _, hxok, hxc, hxk⟩ := hkx
        obtain ⟨x, hx⟩ : ∃ x, x = ls[k]'hko := ⟨_, rfl⟩
        rw [← hx] at hxc hxk hxok
        have hcw : ∀ o, wr.cell? ⟨b, o, none⟩ = w.cell? ⟨b, o, none⟩ := fun o => HB.out.1.cell (p := ⟨b, o, none⟩) hbl
        have a0 := (hcw (off + k * 6 + 0)).trans (hxc 0 _ rfl)
        have a1 := (hcw (off + k * 6 + 1)).trans (hxc 1 _ rfl)
        have a2 := (hcw (off + k * 6 + 2)).trans (hxc 2 _ rfl)
        have a3 := (hcw (off + k * 6 + 3)).trans (hxc 3 _ rfl)
        have a4 := (hcw (off + k * 6 + 4)).trans (hxc 4 _ rfl)
        have a5 := (hcw (off + k * 6 + 5)).trans (hxc 5 _ rfl)
        rw [Nat.add_zero] at a0
        have hpx : (preR x).length ≤ 1100000 := by
          have h1 : preL (ls.drop k) = preR x ++ preL (ls.drop (k + 1)) := by rw [List.drop_eq_getElem_cons hko, preL, ← hx]
          have h2 := congrArg (fun l => (preL l).length) (List.take_append_drop k ls)
          have h3 := HNN.out
          simp only [preL_app, List.length_append] at h2
          rw [h1, List.length_append] at h2
          omega
        have HBA := HB.out.1.alloc HB.out.1.size (.cells (ryCells x).toArray 46)
        have HBB := Lib.hid HBA
        have HRT := Lib.hid (reRight_any x (wr.alloc (.cells (ryCells x).toArray 46)) hxok (hxk.later HBA.size (fun b hb _ => ⟨Nat.lt_of_lt_of_le hb HBA.size, HBA.block b hb⟩)) hpx)
        have HTK : Hid (rightR x = true → ∀ t ∈ ls.take (k + 1), rightR t = true) := fun hr t ht => by
          rw [List.take_succ_eq_append_getElem hko] at ht
          rcases List.mem_append.1 ht with ht | ht
          · exact HA.out t ht
          · obtain rfl := List.mem_singleton.1 ht
            rw [← hx]; exact hr
        have HNO : Hid (rightR x = false → ls.all rightR = false) := fun hr => by
          rw [List.all_eq_false]
          exact ⟨x, by rw [hx]; exact List.getElem_mem _, by rw [hr]; decide⟩
        obtain ⟨R, hR⟩ : ∃ R, R = rightR x := ⟨_, rfl⟩
        rw [← hR] at HRT HTK HNO
        have HZB := Lib.hid (HB.out.2.alloc (.cells (ryCells x).toArray 46))
        unfold ryCells at HRT HBB HZB
        obtain ⟨xl, hxl⟩ : ∃ xl, xl = x.kids.length := ⟨_, rfl⟩
        rw [← hxl] at a5 HRT HBB HZB
        clear hx hxc hxk hxok hbl hcw HBA hxl hpx hR
        cases R with
        | true =>
          go_wp2_with (go_at_call 29; refine HRT.out.mono ?_; rintro e w5 ⟨rfl, hb5⟩)
          have HB5 : Hid (Below w.heap.size w w5 ∧ Blk w5 w.heap.size 25 #[.int .i64 0, .slice none 0 0]) := ⟨HBB.out.trans (hb5.mono HBB.out.size), HZB.out.below hb5 HZB.out.lt⟩
          have HT5 := Lib.hid (HTK.out (by simp))
          clear hb5 HRT HTK HNO
          go_wp2
          go_roundw
          case rel => exact ⟨k + 1, by omega, by go_num, HT5, HB5⟩
          case measure => simp [intOf]; omega
        | false =>
          go_wp2_with (go_at_call 29; refine HRT.out.mono ?_; rintro e w5 ⟨rfl, hb5⟩; have HB5 : Hid (Below w.heap.size w w5 ∧ Blk w5 w.heap.size 25 #[.int .i64 0, .slice none 0 0]) := ⟨HBB.out.trans (hb5.mono HBB.out.size), HZB.out.below hb5 HZB.out.lt⟩; have z0 := HB5.out.2.cell 0; have z1 := HB5.out.2.cell 1; have y0 := HB5.out.2.frozen 0; have y1 := HB5.out.2.frozen 1; simp at z0 z1; clear hb5)
          have HL6 : Hid (Below w.heap.size w ((w5.setCell ⟨w.heap.size, 0, none⟩ (.int .i64 0)).setCell ⟨w.heap.size, 1, none⟩ (.slice none 0 0)) ∧ Blk ((w5.setCell ⟨w.heap.size, 0, none⟩ (.int .i64 0)).setCell ⟨w.heap.size, 1, none⟩ (.slice none 0 0)) w.heap.size 25 #[.int .i64 0, .slice none 0 0]) := ⟨(HB5.out.1.setCell (p := ⟨w.heap.size, 0, none⟩) (Nat.le_refl _) _).setCell (p := ⟨w.heap.size, 1, none⟩) (Nat.le_refl _) _, (HB5.out.2.set_ 0 (.int .i64 0)).set_ 1 (.slice none 0 0)⟩
          refine bodyPost_ret (results_cell_tmp rfl _ _ w.heap.size _ _ _ _ rfl HL6.out.2 Tryd.underlying25 rfl (by kernel_rfl)) rfl ?_
          exact HERR.out _ _ HL6.out.1 (HPB.out (fun h => by have h1 := HNO.out (by simp); rw [h1] at h; exact absurd h.2.2.2.2 (by decide)))
      · obtain rfl : k = q := by omega
        have hall : ls.all rightR = true := by
          rw [List.all_eq_true]
          intro t ht
          exact HA.out t (by rw [HQ.out, List.take_length]; exact ht)
        have HPP := Lib.hid (HPG.out ⟨g1, g2, g3, g4, hall⟩)
        have hws := HB.out.1.size
        have HMK : Hid (Mk (wr.alloc (.cells #[.slice none 0 0, .int .i64 most] 65)) wr.heap.size wr.heap.size (.slice none 0 0) [] most) := ⟨Blk.new _ _ _, World.ownsRow_nil _ _ _ _, Nat.le_refl _⟩
        have HT := Lib.hid (trees_any wr.heap.size wr.heap.size (.slice none 0 0) most ls a c _ HMK.out (by omega) g4 (by rw [← HQ.out]; exact g1) (by rw [← HQ.out]; exact g2) (HR.out.later (by rw [World.size_alloc]; omega) (fun b hb _ => ⟨by omega, (Below.heap_alloc _ _ _ (by omega)).trans (HB.out.1.block b hb)⟩)) HNN.out)
        rw [← HQ.out] at HT
        clear HA HR HPG HPB hall
        go_wp2_with (first
          | (go_at_call 30; refine HT.out.mono ?_; rintro e w5 ⟨n5, st5, rfl, hout, hle, hres⟩; have HM5 := Lib.hid hout; have HE5 := Lib.hid hres; have HB5 := Lib.hid ((hout.keep.lt (HB.out.2.alloc _) (by decide) (by decide))); have HL5 : Hid (Below w.heap.size w w5) := (HB.out.1.alloc HB.out.1.size _).trans (hout.low.mono hws); have HC5 : Hid (Calls Tryd.prog 31 #[.pointer (some ⟨wr.heap.size, 0, none⟩)] w5 fun e w' => e = .returned (.bool (decide (most < (st5.length : Int)))) ∧ Below w5.heap.size w5 w') := (by obtain ⟨v5, hv5⟩ := hout.maker; exact tooMany_any _ _ v5 st5 most w5 hv5); clear hout hres))
        by_cases hmo : most < (st5.length : Int)
        · have hd : decide (most < (st5.length : Int)) = true := decide_eq_true hmo
          rw [hd] at HC5
          have hp : P = (0, [], 40) := by
            rw [HPP.out, if_pos]
            rcases HE5.out with ⟨h1, _⟩ | ⟨_, h2⟩
            · omega
            · exact h2
          have HPQ := Lib.hid hp
          refine HC5.out.mono ?_
          rintro e w6 ⟨rfl, hb6⟩
          have HB6 : Hid (Below w.heap.size w w6 ∧ Blk w6 w.heap.size 25 #[.int .i64 0, .slice none 0 0]) := ⟨HL5.out.trans (hb6.mono HL5.out.size), HB5.out.below hb6 HB5.out.lt⟩
          have z0 := HB6.out.2.cell 0
          have z1 := HB6.out.2.cell 1
          have y0 := HB6.out.2.frozen 0
          have y1 := HB6.out.2.frozen 1
          simp at z0 z1
          clear hb6 hp hd
          have HL6 : Hid (Below w.heap.size w ((w6.setCell ⟨w.heap.size, 0, none⟩ (.int .i64 0)).setCell ⟨w.heap.size, 1, none⟩ (.slice none 0 0)) ∧ Blk ((w6.setCell ⟨w.heap.size, 0, none⟩ (.int .i64 0)).setCell ⟨w.heap.size, 1, none⟩ (.slice none 0 0)) w.heap.size 25 #[.int .i64 0, .slice none 0 0]) := ⟨(HB6.out.1.setCell (p := ⟨w.heap.size, 0, none⟩) (Nat.le_refl _) _).setCell (p := ⟨w.heap.size, 1, none⟩) (Nat.le_refl _) _, (HB6.out.2.set_ 0 (.int .i64 0)).set_ 1 (.slice none 0 0)⟩
          go_wp2
          refine bodyPost_ret (results_cell_tmp rfl _ _ w.heap.size _ _ _ _ rfl HL6.out.2 Tryd.underlying25 rfl (by kernel_rfl)) rfl ?_
          exact HERR.out _ _ HL6.out.1 HPQ.out
        · have hd : decide (most < (st5.length : Int)) = false := decide_eq_false hmo
          rw [hd] at HC5
          have hm5 : (n5, st5) = machineP ls := by
            rcases HE5.out with ⟨_, h1⟩ | ⟨h1, _⟩
            · exact h1
            · exact absurd h1 hmo
          have hp : P = (n5, st5, 0) := by
            rw [HPP.out, if_neg (by rw [← hm5]; exact hmo), ← hm5]
          have HPQ := Lib.hid hp
          refine HC5.out.mono ?_
          rintro e w6 ⟨rfl, hb6⟩
          have HB6 : Hid (Below w.heap.size w w6 ∧ Blk w6 w.heap.size 25 #[.int .i64 0, .slice none 0 0]) := ⟨HL5.out.trans (hb6.mono HL5.out.size), HB5.out.below hb6 HB5.out.lt⟩
          obtain ⟨v6, hv6⟩ := (HM5.out.later hb6).maker
          have HV6 := Lib.hid hv6.own
          have z0 := HB6.out.2.cell 0
          have z1 := HB6.out.2.cell 1
          have y0 := HB6.out.2.frozen 0
          have y1 := HB6.out.2.frozen 1
          have x0 := hv6.blk.cell 0
          simp at z0 z1 x0
          have hso : ∃ a6 c6, v6 = .slice a6 st5.length c6 := by
            rcases HV6.out.2 with ⟨e1, h0⟩ | ⟨g6, c6, _, e1, _⟩
            · exact ⟨none, 0, by rw [e1, h0]⟩
            · exact ⟨_, c6, e1⟩
          obtain ⟨a6, c6, rfl⟩ := hso
          obtain ⟨n6, hn6⟩ : ∃ n6, n6 = st5.length := ⟨_, rfl⟩
          have HN6 := Lib.hid hn6
          rw [← hn6] at x0
          have HL6 : Hid (Below w.heap.size w ((w6.setCell ⟨w.heap.size, 0, none⟩ (.int .i64 n5)).setCell ⟨w.heap.size, 1, none⟩ (.slice a6 n6 c6)) ∧ Blk ((w6.setCell ⟨w.heap.size, 0, none⟩ (.int .i64 n5)).setCell ⟨w.heap.size, 1, none⟩ (.slice a6 n6 c6)) w.heap.size 25 #[.int .i64 n5, .slice a6 n6 c6] ∧ ((w6.setCell ⟨w.heap.size, 0, none⟩ (.int .i64 n5)).setCell ⟨w.heap.size, 1, none⟩ (.slice a6 n6 c6)).ownsRow w.heap.size 56 8 (.slice a6 n6 c6) st5.length (st5.flatMap nsCells)) := by
            refine ⟨(HB6.out.1.setCell (p := ⟨w.heap.size, 0, none⟩) (Nat.le_refl _) _).setCell (p := ⟨w.heap.size, 1, none⟩) (Nat.le_refl _) _, (HB6.out.2.set_ 0 (.int .i64 n5)).set_ 1 (.slice a6 n6 c6), ?_⟩
            rw [hn6]
            exact own_set (own_set (own_lower HV6.out hws) HB6.out.2 (by decide) 0 _) (HB6.out.2.set_ 0 (.int .i64 n5)) (by decide) 1 _
          clear hb6 hp hd hv6 hm5 hn6
          go_wp2
          refine bodyPost_ret (results_cell_tmp rfl _ _ w.heap.size _ _ _ _ rfl HL6.out.2.1 Tryd.underlying25 rfl (by kernel_rfl)) rfl ?_
          refine ⟨.slice a6 n6 c6, ?_, HL6.out.1, ?_⟩
          · rw [HPQ.out]
            rfl
          · rw [HPQ.out]
            exact HL6.out.2.2
  · go_wp2
    all_goals first
      | (exfalso; omega)
      | (refine bodyPost_ret (results_cell_tmp rfl _ _ w.heap.size _ _ _ _ rfl HB0.out.2 Tryd.underlying25 rfl (by kernel_rfl)) rfl ?_; exact HERR.out _ _ HB0.out.1 (HPB.out (fun h => hg ⟨h.1, h.2.1, h.2.2.1, h.2.2.2.1⟩)))
end Go.Proofs.YtdckjjkaoecgaaaDoor
