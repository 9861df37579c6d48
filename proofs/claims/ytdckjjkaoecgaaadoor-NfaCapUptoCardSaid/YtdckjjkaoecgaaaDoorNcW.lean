/-
  The contract of frankinglaw07.NfaCap. Conditions: the trees lie in memory; at most 1100000 nodes; the library's table.
-/
import Derived.Test.YtdckjjkaoecgaaaDoorNcP
import Derived.Test.YtdckjjkaoecgaaaDoorNaW
import Derived.Deep.DeepCutAuto
namespace Go.Proofs.YtdckjjkaoecgaaaDoor
open Go.RowKit Go.Shelf

/-- Build by a cap, as slices -/
theorem build_at {ls : List Ry} (hr : ∀ t ∈ ls, rightR t = true) (h1 : 1 ≤ ls.length) (hf : FewR ls) (most : Int) (h0 : 0 ≤ most) (h2 : most ≤ 20000) (a : Option Addr) (c q : Nat) (hq : q = ls.length) (w : World) (h : RyIn w (· < w.heap.size) a c ls) :
    Calls Tryd.prog 12 #[.slice a q c, .int .i64 most] w fun e w' =>
      if most = 0 then ∃ a' c', e = .returned (.tuple #[.agg #[.int .i64 0, .slice a' 0 c'], .int .i64 2]) ∧ Below w.heap.size w w'
      else if most < (wantP ls : Int) then ∃ a' c', e = .returned (.tuple #[.agg #[.int .i64 0, .slice a' 0 c'], .int .i64 40]) ∧ Below w.heap.size w w'
      else ∃ a' c', e = .returned (.tuple #[.agg #[.int .i64 (machineP ls).1, .slice a' (wantP ls) c'], .int .i64 0]) ∧ Below w.heap.size w w' ∧ NsIn w' w'.heap.size a' (machineP ls).2 := by
  subst hq
  refine (build_any a c ls most w h (by have := few_all hf; omega)).mono ?_
  rintro e w' ⟨v, he, hl, ho⟩
  rw [build_cap hr h1 hf most h0 h2] at he ho
  have hwb := (want_b hr h1 hf).2
  by_cases hz : most = 0
  · rw [if_pos hz] at he ho ⊢
    obtain ⟨a', c', rfl, _⟩ := nsIn_own (st := []) ho rfl (by decide)
    exact ⟨a', c', he, hl⟩
  · rw [if_neg hz] at he ho ⊢
    by_cases hm : most < (wantP ls : Int)
    · rw [if_pos hm] at he ho ⊢
      obtain ⟨a', c', rfl, _⟩ := nsIn_own (st := []) ho rfl (by decide)
      exact ⟨a', c', he, hl⟩
    · rw [if_neg hm] at he ho ⊢
      obtain ⟨a', c', rfl, hn⟩ := nsIn_own ho rfl (by have : (machineP ls).2.length = wantP ls := rfl; show (machineP ls).2.length ≤ _; omega)
      exact ⟨a', c', he, hl, hn⟩
set_option maxRecDepth 100000 in
set_option maxHeartbeats 8000000 in
theorem cap_any (a : Option Addr) (c : Nat) (ls : List Ry) (cap : Nat) (hcap : cap < 65536) (w : World) (h : RyIn w (· < w.heap.size) a c ls) (hb : (preL ls).length ≤ 1100000) (hT : TzAt w) (htb : 0 < w.heap.size) :
    Calls Tryd.prog 5 #[.slice a ls.length c, .int .u16 (cap : Int)] w fun e w' => e = .returned (.bool true) ∧ Below w.heap.size w w' := by
  have HRC := Lib.hid (right7_any a c ls w h hb)
  have HAW : Hid (∀ W, Below w.heap.size w W → Calls Tryd.prog 10 #[] W fun e w' => e = .returned (.bool true) ∧ Below W.heap.size W w') := fun W hW => awake7_any W (hT.below htb hW) (Nat.lt_of_lt_of_le htb hW.size)
  obtain ⟨n, hn⟩ : ∃ n, n = ls.length := ⟨_, rfl⟩
  rw [← hn] at HRC ⊢
  clear h hb hT htb hn
  go_enter Tryd.func5, Tryd.ntmps5
  go_upto_region 2 with (go_at_call 20; refine HRC.out.mono ?_; rintro e w2 ⟨⟨v, rfl, ho⟩, hb2⟩)
  obtain ⟨a', c', rfl, hri⟩ := ho.slice hb2
  have HL2 := Lib.hid hb2
  have HRI := Lib.hid hri
  have HRR : Hid (∀ t ∈ ls.filter rightR, rightR t = true) := fun t ht => (List.mem_filter.1 ht).2
  generalize ls.filter rightR = rs at *
  have hcc := hri.len
  unfold maxLen at hcc
  obtain ⟨m, hm⟩ : ∃ m, m = rs.length := ⟨_, rfl⟩
  have HM := Lib.hid hm
  have HFEW := Lib.hid (few6_any a' c' rs w2 hri)
  rw [← hm] at hcc HFEW ⊢
  obtain ⟨hcc1, hcc2⟩ := hcc
  clear ho hb2 hri HRC hm
  by_cases hm0 : m = 0
  · have hz : ((m : Int) == 0) = true := by rw [beq_iff_eq]; omega
    clear hm0
    go_upto_region 3 with (go_at_call 8; refine HFEW.out.mono ?_; rintro e w3 ⟨⟨b, rfl, hfew⟩, hb3⟩; have HL3 := Lib.hid (low_trans HL2.out hb3); clear hb3 hfew)
    all_goals go_wp2_with (go_at_call 10; refine (HAW.out _ HL3.out).mono ?_; rintro e w4 ⟨rfl, hb4⟩; have HL4 := Lib.hid (low_trans HL3.out hb4); clear hb4)
    all_goals go_ret
    all_goals exact ⟨rfl, HL4.out⟩
  have hz : ((m : Int) == 0) = false := by rw [beq_eq_false_iff_ne]; omega
  go_upto_region 3 with (go_at_call 8; refine HFEW.out.mono ?_; rintro e w3 ⟨⟨b, rfl, hfew⟩, hb3⟩; have HL3 := Lib.hid (low_trans HL2.out hb3); have HL23 := Lib.hid hb3; have HFW := Lib.hid hfew; clear hb3 hfew)
  rotate_left 1
  · go_wp2_with (go_at_call 10; refine (HAW.out _ HL3.out).mono ?_; rintro e w4 ⟨rfl, hb4⟩; have HL4 := Lib.hid (low_trans HL3.out hb4); clear hb4)
    go_ret
    exact ⟨rfl, HL4.out⟩
  have hfr : FewR rs := HFW.out (by assumption)
  have h1 : 1 ≤ rs.length := by rw [← HM.out]; omega
  have HFR := Lib.hid hfr
  have HR3 := Lib.hid ((HRI.out.on HL23.out).mono (S' := (· < w3.heap.size)) (fun b hb h => hb))
  have hwi := want_is HRR.out h1
  have hwb := want_b HRR.out h1 hfr
  have HP : Hid (∀ (k : Nat) (x : Ry), rs[k]? = some x → statesL (rs.take (k + 1)) = statesL (rs.take k) + statesR x ∧ (preR x).length ≤ 200) := fun k x hx => by
    rw [List.take_add_one, hx]
    exact ⟨statesL_app _ _, hfr.2 x (List.mem_of_getElem? hx)⟩
  have HBD : Hid (∀ k, -1200 ≤ statesL (rs.take k) ∧ statesL (rs.take k) ≤ 2400) := fun k => by
    have h1 := stL_b (rs.take k)
    have h2 := pre_take rs k
    have h3 := few_all hfr
    omega
  have HBX : Hid (∀ x : Ry, (preR x).length ≤ 200 → -200 ≤ statesR x ∧ statesR x ≤ 400) := fun x hx => by
    have h1 := stR_b x
    omega
  have HTK : Hid (2 * (m : Int) - 1 + statesL (rs.take m) = (wantP rs : Int)) := by
    show _ = _
    rw [HM.out, List.take_length, hwi]
    omega
  have hm6 : m ≤ 6 := by rw [HM.out]; exact hfr.1
  have HBU : Hid (∀ most : Int, 0 ≤ most → most ≤ 20000 → ∀ W, Below w3.heap.size w3 W → Calls Tryd.prog 12 #[.slice a' m c', .int .i64 most] W fun e w' =>
      if most = 0 then ∃ a' c', e = .returned (.tuple #[.agg #[.int .i64 0, .slice a' 0 c'], .int .i64 2]) ∧ Below W.heap.size W w'
      else if most < (wantP rs : Int) then ∃ a' c', e = .returned (.tuple #[.agg #[.int .i64 0, .slice a' 0 c'], .int .i64 40]) ∧ Below W.heap.size W w'
      else ∃ a' c', e = .returned (.tuple #[.agg #[.int .i64 (machineP rs).1, .slice a' (wantP rs) c'], .int .i64 0]) ∧ Below W.heap.size W w' ∧ NsIn w' w'.heap.size a' (machineP rs).2) := fun most h2 h3 W hW => build_at HRR.out h1 hfr most h2 h3 a' c' m HM.out W ((HR3.out.on hW).mono (fun b hb h => hb))
  have HLN : Hid ((machineP rs).2.length = wantP rs) := rfl
  obtain ⟨⟨p, st⟩, hM⟩ : ∃ M, M = machineP rs := ⟨_, rfl⟩
  obtain ⟨Z, hZ⟩ : ∃ Z, Z = wantP rs := ⟨_, rfl⟩
  rw [← hM, ← hZ] at HBU HLN
  dsimp only at HBU HLN
  rw [← hZ] at HTK hwb
  clear hM hZ hwi h1 hfr HFW HFEW hz
  have hw1 : wrap64 (2 * (m : Int)) = 2 * (m : Int) := by unfold wrap64; omega
  have hw2 : wrap64 (2 * (m : Int) - 1) = 2 * (m : Int) - 1 := by unfold wrap64; omega
  go_upto_region 6 with fail
  go_loopw [5, 31] (fun v i wr => ∃ k : Nat, k ≤ m ∧ i = .int .i64 (k : Int) ∧ v = .int .i64 (2 * (m : Int) - 1 + statesL (rs.take k)) ∧ Hid (Below w3.heap.size w3 wr)) (fun _ i _ => m - (intOf i).toNat)
  case atStart => exact ⟨0, Nat.zero_le _, rfl, by simp [statesL, hw1, hw2], Below.refl _ _⟩
  case round =>
    clear hw1 hw2
    obtain ⟨k, hk, rfl, rfl, HL⟩ := hrel
    by_cases hlt : k < m
    · have hlt' : (k : Int) < m := by omega
      have h0' : (0 : Int) ≤ k := by omega
      have hkl : k < rs.length := by rw [← HM.out]; exact hlt
      obtain ⟨x, hx⟩ : ∃ x, rs[k]? = some x := ⟨_, List.getElem?_eq_getElem hkl⟩
      obtain ⟨b, off, rfl, hbl, _, hxok, hxc, hxk⟩ := HR3.out.at_ hkl
      rw [show rs[k] = x from by rw [List.getElem?_eq_getElem hkl] at hx; injection hx] at hxok hxc hxk
      have hcw : ∀ j u, (ryCells x)[j]? = some u → wr.cell? ⟨b, off + k * 6 + j, none⟩ = some u := fun j u hj => (HL.out.cell (p := ⟨b, off + k * 6 + j, none⟩) hbl).trans (hxc j u hj)
      have a0 := hcw 0 _ rfl
      have a1 := hcw 1 _ rfl
      have a2 := hcw 2 _ rfl
      have a3 := hcw 3 _ rfl
      have a4 := hcw 4 _ rfl
      have a5 := hcw 5 _ rfl
      rw [Nat.add_zero] at a0
      obtain ⟨hs1, hs2⟩ := HP.out k x hx
      have HXK := Lib.hid hxk
      have HREC : Hid (∀ W, Below w3.heap.size w3 W → Calls Tryd.prog 23 #[.agg (ryCells x).toArray] W fun e w2 => e = .returned (.int .i64 (statesR x)) ∧ Below W.heap.size W w2) := fun W hW => states_any x W ((HXK.out.on hW).mono (fun b hb h => hb)) (by omega)
      have hb1 := HBD.out k
      have hb2 := HBX.out x hs2
      have HS := Lib.hid hs1
      have HLA : Hid (Below w3.heap.size w3 (wr.alloc (.cells (ryCells x).toArray 46))) := HL.out.alloc HL.out.size _
      unfold ryCells at HREC HLA
      obtain ⟨xl, hxl⟩ : ∃ xl, xl = x.kids.length := ⟨_, rfl⟩
      rw [← hxl] at a5 HREC HLA
      clear hcw hx hs1 hs2 hxl hxok hxc hxk
      generalize statesR x = sx at *
      generalize hsk : statesL (rs.take k) = sk at *
      clear hsk
      go_wp2_with (go_at_call 23; refine (HREC.out _ HLA.out).mono ?_; rintro e w5 ⟨rfl, hb5⟩; have HL5 := Lib.hid (low_trans HLA.out hb5); clear hb5)
      refine ⟨⟨k + 1, hlt, by push_cast; rfl, ?_, HL5⟩, by simp [intOf]; omega⟩
      rw [HS.out, Int.add_assoc]
    · obtain rfl : k = m := by omega
      rw [HTK.out]
      clear hk hlt HBD HBX HP HTK
      have hwc := hwb
      obtain ⟨hz1, hz2⟩ := hwc
      have HB0 := Lib.hid (HBU.out (Z : Int) (by omega) (by omega) wr HL.out)
      have e1 : ¬ (Z : Int) = 0 := by omega
      have e2 : ¬ (Z : Int) < (Z : Int) := by omega
      simp only [if_neg e1, if_neg e2] at HB0
      clear e1 e2
      go_upto_region 11 with (go_at_call 12; refine HB0.out.mono ?_; rintro e w5 ⟨a5, c5, rfl, hl5, hns5⟩; have HL5 := Lib.hid (low_trans HL.out hl5); have HN5 := Lib.hid hns5; clear hl5 hns5)
      clear HB0
      obtain ⟨W5, hW5⟩ : ∃ W5, W5 = w5.alloc (.cells #[.int .i64 p, .slice a5 Z c5] 25) := ⟨_, rfl⟩
      have HL6 : Hid (Below w3.heap.size w3 W5) := by rw [hW5]; exact HL5.out.alloc HL5.out.size _
      have HX6 : Hid (Blk W5 w5.heap.size 25 #[.int .i64 p, .slice a5 Z c5]) := by rw [hW5]; exact Blk.new _ _ _
      have HN6 : Hid (NsIn W5 W5.heap.size a5 st) := by rw [hW5]; exact (HN5.out.below ((Below.refl _ _).alloc (Nat.le_refl _) _)).mono (by rw [World.size_alloc]; omega)
      rw [← hW5]
      clear hW5 HN5 HL5
      obtain ⟨g5, hg5⟩ : ∃ g5, g5 = w5.heap.size := ⟨_, rfl⟩
      rw [← hg5] at HX6 ⊢
      clear hg5
      have c0 := HX6.out.cell 0
      have c1 := HX6.out.cell 1
      simp at c0 c1
      have hcp : cap % 20000 < 20000 := Nat.mod_lt _ (by decide)
      have hrem : (cap : Int).tmod 20000 = ((cap % 20000 : Nat) : Int) := by rw [Int.tmod_eq_emod_of_nonneg (by omega), Int.natCast_emod]; rfl
      generalize cap % 20000 = cq at *
      have hZ1 : wrap64 ((Z : Int) - 1) = (Z : Int) - 1 := by unfold wrap64; omega
      have hZ2 : wrap64 ((Z : Int) + 1) = (Z : Int) + 1 := by unfold wrap64; omega
      go_upto_region 14 with fail
      obtain ⟨W6, hW6⟩ : ∃ W6, W6 = W5.alloc (.cells #[.int .i64 ((Z : Int) - 1), .int .i64 ((Z : Int) + 1), .int .i64 (1 + (cq : Int)), .int .i64 20000] 3) := ⟨_, rfl⟩
      have HL7 : Hid (Below W5.heap.size W5 W6) := by rw [hW6]; exact (Below.refl _ _).alloc (Nat.le_refl _) _
      have HY7 : Hid (Blk W6 W5.heap.size 3 #[.int .i64 ((Z : Int) - 1), .int .i64 ((Z : Int) + 1), .int .i64 (1 + (cq : Int)), .int .i64 20000]) := by rw [hW6]; exact Blk.new _ _ _
      rw [← hW6]
      clear hW6 c0 c1 hrem
      obtain ⟨g6, hg6⟩ : ∃ g6, g6 = W5.heap.size := ⟨_, rfl⟩
      rw [← hg6] at HY7 ⊢
      have HAT : Hid (∀ j, j < 4 → ∃ most : Int, 0 ≤ most ∧ most ≤ 20000 ∧ ∀ W, Below W6.heap.size W6 W → W.cell? ⟨g6, j, none⟩ = some (.int .i64 most)) := fun j hj => by
        have key : ∀ (most : Int), #[Value.int .i64 ((Z : Int) - 1), .int .i64 ((Z : Int) + 1), .int .i64 (1 + (cq : Int)), .int .i64 20000][j]? = some (.int .i64 most) → ∀ W, Below W6.heap.size W6 W → W.cell? ⟨g6, j, none⟩ = some (.int .i64 most) := fun most h W hW => ((HY7.out.below hW HY7.out.lt).cell j).trans h
        match j, hj with
        | 0, _ => exact ⟨(Z : Int) - 1, by omega, by omega, key _ rfl⟩
        | 1, _ => exact ⟨(Z : Int) + 1, by omega, by omega, key _ rfl⟩
        | 2, _ => exact ⟨1 + (cq : Int), by omega, by omega, key _ rfl⟩
        | 3, _ => exact ⟨20000, by omega, by omega, key _ rfl⟩
      have HX8 : Hid (∀ W, Below W6.heap.size W6 W → W.cell? ⟨g5, 0, none⟩ = some (.int .i64 p) ∧ W.cell? ⟨g5, 1, none⟩ = some (.slice a5 Z c5)) := fun W hW => by
        have h1 := (HX6.out.below HL7.out HX6.out.lt).below hW (Nat.lt_of_lt_of_le HX6.out.lt HL7.out.size)
        have h2 := h1.cell 0
        have h3 := h1.cell 1
        exact ⟨by simpa using h2, by simpa using h3⟩
      have HN8 : Hid (∀ W, Below W6.heap.size W6 W → NsIn W W.heap.size a5 st) := fun W hW => by
        have h1 : Below W5.heap.size W5 W := HL7.out.trans (hW.mono HL7.out.size)
        exact (HN6.out.below h1).mono h1.size
      have HB8 : Hid (∀ most : Int, 0 ≤ most → most ≤ 20000 → ∀ W, Below W6.heap.size W6 W → Calls Tryd.prog 12 #[.slice a' k c', .int .i64 most] W fun e w' =>
          if most = 0 then ∃ a' c', e = .returned (.tuple #[.agg #[.int .i64 0, .slice a' 0 c'], .int .i64 2]) ∧ Below W.heap.size W w'
          else if most < (Z : Int) then ∃ a' c', e = .returned (.tuple #[.agg #[.int .i64 0, .slice a' 0 c'], .int .i64 40]) ∧ Below W.heap.size W w'
          else ∃ a' c', e = .returned (.tuple #[.agg #[.int .i64 p, .slice a' Z c'], .int .i64 0]) ∧ Below W.heap.size W w' ∧ NsIn w' w'.heap.size a' st) := fun most h1 h2 W hW => HBU.out most h1 h2 W (low_trans HL6.out (HL7.out.trans (hW.mono HL7.out.size)))
      have HFL : Hid (∀ W, Below W6.heap.size W6 W → Below w.heap.size w W) := fun W hW => low_trans HL3.out (low_trans HL6.out (HL7.out.trans (hW.mono HL7.out.size)))
      clear HBU HN6 HX6 HY7 HL7 HL6 HL HL2 HL23 HR3 HRI HFR HRR hcp hZ1 hZ2 hg6 hwb hm6
      go_loopw [65] (fun i wr => ∃ j : Nat, j ≤ 4 ∧ i = .int .i64 (j : Int) ∧ Hid (Below W6.heap.size W6 wr)) (fun i _ => 4 - (intOf i).toNat)
      case atStart => exact ⟨0, by omega, rfl, Below.refl _ _⟩
      case round =>
        obtain ⟨j, hj, rfl, HL⟩ := hrel
        by_cases hlt : j < 4
        · have hlt' : (j : Int) < 4 := by omega
          have h0' : (0 : Int) ≤ j := by omega
          obtain ⟨most, hm1, hm2, hmc⟩ := HAT.out j hlt
          have y0 := hmc wr HL.out
          have HB := Lib.hid (HB8.out most hm1 hm2 wr HL.out)
          clear hmc
          by_cases hz : most = 0
          · have d0 : (most == 0) = true := by rw [beq_iff_eq]; exact hz
            simp only [if_pos hz] at HB
            clear hz
            go_wp2_with (go_at_call 12; refine HB.out.mono ?_; rintro e w8 ⟨a8, c8, rfl, hl8⟩; have HL8 : Hid (Below W6.heap.size W6 (w8.alloc (.cells #[.int .i64 0, .slice a8 0 c8] 25))) := (low_trans HL.out hl8).alloc (low_trans HL.out hl8).size _; clear hl8)
            exact ⟨⟨j + 1, by omega, by push_cast; rfl, HL8⟩, by simp [intOf]; omega⟩
          · have d0 : (most == 0) = false := by rw [beq_eq_false_iff_ne]; exact hz
            simp only [if_neg hz] at HB
            by_cases hl : most < (Z : Int)
            · simp only [if_pos hl] at HB
              clear hz
              go_upto_region 17 with (go_at_call 12; refine HB.out.mono ?_; rintro e w8 ⟨a8, c8, rfl, hl8⟩; have HL8 : Hid (Below W6.heap.size W6 (w8.alloc (.cells #[.int .i64 0, .slice a8 0 c8] 25))) := (low_trans HL.out hl8).alloc (low_trans HL.out hl8).size _; clear hl8)
              have hb8 := Blk.new w8 25 #[.int .i64 0, .slice a8 0 c8]
              have x0 := hb8.cell 0
              have x1 := hb8.cell 1
              simp at x0 x1
              clear hb8
              go_wp2_with fail
              exact ⟨⟨j + 1, by omega, by push_cast; rfl, HL8⟩, by simp [intOf]; omega⟩
            · simp only [if_neg hl] at HB
              clear hz
              go_upto_region 17 with (go_at_call 12; refine HB.out.mono ?_; rintro e w8 ⟨a8, c8, rfl, hl8, hn8⟩; have HL8 := Lib.hid (low_trans HL.out hl8); have HN9 := Lib.hid hn8; clear hl8 hn8)
              obtain ⟨W9, hW9⟩ : ∃ W9, W9 = w8.alloc (.cells #[.int .i64 p, .slice a8 Z c8] 25) := ⟨_, rfl⟩
              have HL9 : Hid (Below W6.heap.size W6 W9) := by rw [hW9]; exact HL8.out.alloc HL8.out.size _
              have hb9 : Blk W9 w8.heap.size 25 #[.int .i64 p, .slice a8 Z c8] := by rw [hW9]; exact Blk.new _ _ _
              have HN9 : Hid (NsIn W9 W9.heap.size a8 st) := by rw [hW9]; exact (HN9.out.below ((Below.refl _ _).alloc (Nat.le_refl _) _)).mono (by rw [World.size_alloc]; omega)
              rw [← hW9]
              clear hW9
              have x0 := hb9.cell 0
              have x1 := hb9.cell 1
              simp at x0 x1
              obtain ⟨z0, z1⟩ := HX8.out W9 HL9.out
              have HSA := Lib.hid (same7_any p p a8 a5 c8 c5 st st Z Z HLN.out HLN.out (by omega) (by omega) W9 HN9.out (HN8.out W9 HL9.out) true (by simp))
              clear hb9 HB y0 HL8
              go_wp2_with (go_at_call 14; refine HSA.out.mono ?_; rintro e w10 ⟨rfl, hb⟩; have HL10 := Lib.hid (low_trans HL9.out hb); clear hb)
              exact ⟨⟨j + 1, by omega, by push_cast; rfl, HL10⟩, by simp [intOf]; omega⟩
        · obtain rfl : j = 4 := by omega
          go_wp2_with (go_at_call 10; refine (HAW.out _ (HFL.out _ HL.out)).mono ?_; rintro e w4 ⟨rfl, hb4⟩; have HL4 := Lib.hid (low_trans (HFL.out _ HL.out) hb4); clear hb4)
          go_ret
          exact ⟨rfl, HL4.out⟩
end Go.Proofs.YtdckjjkaoecgaaaDoor
