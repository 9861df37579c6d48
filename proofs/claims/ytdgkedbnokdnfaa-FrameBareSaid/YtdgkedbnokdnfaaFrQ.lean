/-
  The contract of frankinglaw12's all: bytes that are pushed in pieces. Conditions: a most that may be; the bytes (at most twenty thousand) and the sizes lie in memory.
-/
import Derived.Test.YtdgkedbnokdnfaaFrO
import Derived.Test.YtdgkedbnokdnfaaGb
import Derived.Deep.RegionLaw
import Derived.Deep.DeepCutAuto
namespace Go.Proofs.Ytdgkedbnokdnfaa
open Go.RowKit

/-- the frame behind bytes -/
def frT (m : Nat) (t : List UInt8) : Array Value := frCells m ((bodyP t).take m) (decide (m < (bodyP t).length)) (lastCr t)
theorem frT_nil (m : Nat) : frT m [] = frCells m [] false false := by simp [frT, bodyP, lastCr]
def frTold (m : Nat) (b : List UInt8) : List LnP := (rawP [] b).2.map (lineP m)
theorem frTold_few (m : Nat) (b : List UInt8) : (frTold m b).length ≤ b.length := by unfold frTold; rw [List.length_map]; exact rawP_few b []
theorem own_form {w : World} {B sz n : Nat} {e : TypeId} {v : Value} {xs : List Value} (h : w.ownsRow B e sz v n xs) : ∃ A c, v = .slice A n c ∧ ∀ x, A = some x → B ≤ x.block := by
  rcases h.2 with ⟨rfl, rfl⟩ | ⟨g, cap, cur, rfl, hg, _⟩
  · exact ⟨none, 0, rfl, fun x hx => by cases hx⟩
  · exact ⟨_, _, rfl, fun x hx => by injection hx with hx; rw [← hx]; exact hg⟩
/-- what stands in a round -/
structure AllW (w W : World) (Fb base n : Nat) (b : List UInt8) (k : Nat) (vo : Value) : Prop where
  low : Below w.heap.size w W
  res : Blk W w.heap.size 26 (frCells 0 [] false false)
  fr : Blk W Fb 26 (frT n (rawP [] (b.take k)).1)
  fw : w.heap.size < Fb
  fb : Fb < base
  hb : base ≤ W.heap.size
  lin : W.ownsRow base 35 2 vo (frTold n (b.take k)).length (linCells (frTold n (b.take k)))
theorem raw_more (b : List UInt8) (k j : Nat) : rawP [] (b.take (k + j)) = ((rawP (rawP [] (b.take k)).1 ((b.drop k).take j)).1, (rawP [] (b.take k)).2 ++ (rawP (rawP [] (b.take k)).1 ((b.drop k).take j)).2) := by
  rw [List.take_add, rawP_append]
theorem ln_one {ls : List LnP} : ∀ u ∈ linCells ls, u.oneCell' = true := by
  intro u hu
  unfold linCells at hu
  rw [List.mem_flatMap] at hu
  obtain ⟨x, _, h⟩ := hu
  simp [lnCells] at h
  rcases h with rfl | rfl <;> rfl
/-- the lines of a piece are appended, the frame is stored -/
theorem AllW.next {w W W2 W3 : World} {Fb base n : Nat} {b : List UInt8} {k : Nat} {vo v' : Value} (h : AllW w W Fb base n b k vo) (j : Nat) (hb : Below W.heap.size W W2)
    (hg : W2.grownBy W3 (some Fb)) (hf : Blk W3 Fb 26 (frT n (rawP (rawP [] (b.take k)).1 ((b.drop k).take j)).1)) {W4 : World}
    (ho : W4.ownsRow base 35 2 v' ((frTold n (b.take k)).length + (rawP (rawP [] (b.take k)).1 ((b.drop k).take j)).2.length) (linCells (frTold n (b.take k)) ++ linCells ((rawP (rawP [] (b.take k)).1 ((b.drop k).take j)).2.map (lineP n)))) (hg2 : W3.grownBy W4 vo.ownBlock) : AllW w W4 Fb base n b (k + j) v' := by
  have hbl : ∀ q, vo.ownBlock = some q → base ≤ q := fun q e => (h.lin.lt q e).1
  have h1 := h.fw
  have h2 := h.fb
  have low3 : Below w.heap.size w W3 := (low_trans h.low hb).grown hg (by have := hb.size; have := h.low.size; omega) (fun q e => by injection e with e; omega)
  have hs3 : W.heap.size ≤ W3.heap.size := by have := hb.size; have := hg.size; omega
  have r3 : Blk W3 w.heap.size 26 (frCells 0 [] false false) := (h.res.below hb h.res.lt).kept hg (fun e => by injection e with e; omega)
  refine ⟨low3.grown hg2 low3.size (fun q e => by have := hbl q e; omega), r3.kept hg2 (fun e => by have := hbl _ e.symm; omega), ?_, h1, h2, by have := hg2.size; have := h.hb; omega, ?_⟩
  · rw [raw_more]
    exact hf.kept hg2 (fun e => by have := hbl _ e.symm; omega)
  · have e : frTold n (b.take (k + j)) = frTold n (b.take k) ++ (rawP (rawP [] (b.take k)).1 ((b.drop k).take j)).2.map (lineP n) := by
      unfold frTold
      rw [raw_more, List.map_append]
    rw [e, linCells_app, List.length_append, List.length_map]
    exact ho
set_option maxRecDepth 100000 in
set_option maxHeartbeats 4000000 in
theorem all_any (n : Nat) (h0 : 1 ≤ n) (h1 : n ≤ 2000) (ba : Option Addr) (b : List UInt8) (cb : Nat) (sa : Option Addr) (sizes : List UInt8) (cs : Nat) (w : World) (hb : BytesAt w ba b) (hc : b.length ≤ cb) (hs : BytesAt w sa sizes) (hn : b.length ≤ 20000) :
    Calls Try.prog 8 #[.int .i64 (n : Int), .slice ba b.length cb, .slice sa sizes.length cs] w fun e W' => ∃ vl, e = .returned (.tuple #[.agg (frT n (rawP [] b).1), vl, .bool true]) ∧
      W'.ownsRow w.heap.size 35 2 vl (frTold n b).length (linCells (frTold n b)) ∧ Below w.heap.size w W' := by
  have HB := Lib.hid hb
  have HS := Lib.hid hs
  have HL0 := Lib.hid ((Below.refl w.heap.size w).alloc (Nat.le_refl _) (.cells #[.int .i64 0, .string ⟨#[]⟩, .bool false, .bool false] 26))
  have HR0 : Hid (Blk (w.alloc (.cells #[.int .i64 0, .string ⟨#[]⟩, .bool false, .bool false] 26)) w.heap.size 26 (frCells 0 [] false false)) := Blk.new _ _ _
  have hsl := hs.len
  clear hb hs
  generalize hbl : b.length = N at *
  have HN := Lib.hid hbl
  clear hbl
  generalize hsz : sizes.length = M at *
  have HM := Lib.hid hsz
  clear hsz
  go_enter Try.func8, Try.ntmps8
  go_wp2_with (go_at_call 15; refine (new_yes n h0 h1 _).mono ?_)
  rintro e w1 ⟨rfl, hb1⟩
  rw [show frCells n [] false false = #[.int .i64 (n : Int), .string ⟨#[]⟩, .bool false, .bool false] from rfl]
  have HA : Hid (AllW w (w1.alloc (.cells #[.int .i64 (n : Int), .string ⟨#[]⟩, .bool false, .bool false] 26)) w1.heap.size (w1.heap.size + 1) n b 0 (.slice none 0 0)) := by
    have hs1 := hb1.size
    rw [World.size_alloc] at hs1
    refine ⟨(HL0.out.trans (hb1.mono (by rw [World.size_alloc]; omega))).alloc (by omega) _, (HR0.out.below hb1 HR0.out.lt).alloc _, ?_, by omega, by omega, by simp, World.ownsRow_nil _ _ _ _⟩
    rw [List.take_zero]
    show Blk _ _ _ (frT n [])
    rw [frT_nil]
    exact Blk.new _ _ _
  clear HL0 HR0 hb1
  go_wp2
  go_loopw [1, 11, 12] (fun bv ov iv wr => ∃ (k j : Nat) (a' : Option Addr) (c' : Nat) (vo : Value), vo = ov ∧ bv = .slice a' (N - k) c' ∧ iv = .int .i64 j ∧ j ≤ k ∧ k ≤ N ∧ N - k ≤ c' ∧ Hid (BytesAt w a' (b.drop k)) ∧ Hid (AllW w wr w1.heap.size (w1.heap.size + 1) n b k vo)) (fun bv _ _ _ => (match bv with | .slice _ m _ => m | _ => 0))
  case atStart => exact ⟨0, 0, ba, cb, _, rfl, rfl, rfl, Nat.le_refl _, Nat.zero_le _, hc, by rw [List.drop_zero]; exact HB, HA⟩
  case round =>
    obtain ⟨k, j, a', c', vo, rfl, rfl, rfl, hjk, hkN, hkc, HBK, HAK⟩ := hrel
    clear HA
    by_cases hlt : k < N
    · have hlt' : (0 : Int) < ((N - k : Nat) : Int) := by omega
      go_upto_if 29 with (fail)
      go_cut [13] (fun v wx => ∃ st : Nat, v = .int .i64 st ∧ 1 ≤ st ∧ st ≤ N - k ∧ wr = wx)
      case first =>
        by_cases hM : 0 < M
        · have hM' : (0 : Int) < (M : Int) := by omega
          have hrem := rem_of j M hM
          have hjm : j % M < M := Nat.mod_lt _ hM
          obtain ⟨q, off, rfl, hq⟩ := BytesAt.at_ (show BytesAt wr sa sizes from RowAt.below HS.out HAK.out.low) (k := j % M) (by rw [HM.out]; exact hjm)
          have hz0 : (0 : Int) ≤ ((j % M : Nat) : Int) := by omega
          have hz1 : ((j % M : Nat) : Int) < (M : Int) := by omega
          generalize sizes[j % M]'(by rw [HM.out]; exact hjm) = x at hq
          have hx := x.toNat_lt
          generalize x.toNat = xn at *
          generalize j % M = jm at *
          go_wp2
          all_goals go_meet
          all_goals (first | exact ⟨N - k, rfl, by omega, by omega, rfl⟩ | exact ⟨1 + xn, by simp, by omega, by omega, rfl⟩)
        · have hM' : ¬ (0 : Int) < (M : Int) := by omega
          go_wp2
          go_meet
          exact ⟨_, rfl, by omega, by omega, rfl⟩
      case rest =>
        obtain ⟨st, rfl, hst1, hst2, rfl⟩ := hcut
        have HP : Hid (Calls Try.prog 16 #[.agg (frT n (rawP [] (b.take k)).1), .slice a' st c'] wr.drew fun e W' => ∃ vl, e = .returned (.tuple #[.agg (frT n (rawP (rawP [] (b.take k)).1 ((b.drop k).take st)).1), vl]) ∧
            W'.ownsRow wr.heap.size 35 2 vl (rawP (rawP [] (b.take k)).1 ((b.drop k).take st)).2.length (linCells ((rawP (rawP [] (b.take k)).1 ((b.drop k).take st)).2.map (lineP n))) ∧ Below wr.heap.size wr.drew W') := by
          have hlen : ((b.drop k).take st).length = st := by rw [List.length_take, List.length_drop, HN.out]; omega
          have := push_any n (rawP [] (b.take k)).1 a' ((b.drop k).take st) c' wr.drew (take_bytes (show BytesAt wr.drew a' (b.drop k) from RowAt.below HBK.out HAK.out.low.drew) st) (by omega) (by omega)
          rw [hlen] at this
          exact this
        have hsl : ∀ W, (Instr.slice 23 (.slice a' (N - k) c') none (some (.int .i64 (st : Int))) none).run Try.prog W = .ok (.slice a' st c') W := fun W => slice_to a' (N - k) c' st (by omega) W
        obtain ⟨a2, ha2, hfr⟩ := slice_from a' (N - k) c' st (by omega) hst2
        have bF : Blk wr.drew w1.heap.size 26 _ := HAK.out.fr
        have z0 := bF.frozen 0
        have z1 := bF.frozen 1
        have z2 := bF.frozen 2
        have z3 := bF.frozen 3
        have c0 := bF.cell 0
        have c1 := bF.cell 1
        have c2 := bF.cell 2
        have c3 := bF.cell 3
        unfold frT frCells at HP c0 c1 c2 c3
        simp at c0 c1 c2 c3
        have HBF := Lib.hid bF
        have HLT : Hid (w1.heap.size < wr.heap.size) := by have := HAK.out.hb; show w1.heap.size < wr.heap.size; omega
        clear bF
        go_upto_region 10 with (fail)
        go_cut [14] (fun v wx => ∃ (A : Option Addr) (q c9 : Nat), v = .slice A q c9 ∧ Hid (q = (rawP (rawP [] (b.take k)).1 ((b.drop k).take st)).2.length) ∧ ∃ W2, Hid (Below wr.heap.size wr W2 ∧ RowAt wx A (linCells ((rawP (rawP [] (b.take k)).1 ((b.drop k).take st)).2.map (lineP n))) ∧ W2.grownBy wx (some w1.heap.size) ∧ Blk wx w1.heap.size 26 (frT n (rawP (rawP [] (b.take k)).1 ((b.drop k).take st)).1)))
        case first =>
          go_region_law (first | (go_simp; go_at_call 16; refine HP.out.mono ?_; rintro e w2 ⟨vl, rfl, hown, hbel⟩; have bF2 := HBF.out.below hbel HLT.out; have y0 := bF2.frozen 0; have y1 := bF2.frozen 1; have y2 := bF2.frozen 2; have y3 := bF2.frozen 3; have e0 := bF2.cell 0; have e1 := bF2.cell 1; have e2 := bF2.cell 2; have e3 := bF2.cell 3; simp [frT, frCells] at e0 e1 e2 e3; have HOW := Lib.hid hown; have HBE := Lib.hid hbel; have HB2 := Lib.hid bF2; clear hown hbel bF2))
          all_goals
            obtain ⟨A, c9, rfl, hA⟩ := own_form HOW.out
            have HAA := Lib.hid hA
            clear hA
            go_wp2
            go_meet
            have hon := (((Only.refl w1.heap.size w2).set_ 0 (.int .i64 (n : Int))).set_ 1 (.string (bs ((bodyP (rawP (rawP [] (b.take k)).1 ((b.drop k).take st)).1).take n)))).set_ 2 (.bool (decide (n < (bodyP (rawP (rawP [] (b.take k)).1 ((b.drop k).take st)).1).length)))
            refine ⟨A, _, c9, rfl, rfl, w2, ⟨Below.trans ((Below.refl _ _).drew) HBE.out, ?_, hon.set_ 3 _, ?_⟩⟩
            · refine RowAt.only (row_of_own HOW.out ?_) (hon.set_ 3 _) (fun _ x hx => ?_)
              · rw [linCells_len, List.length_map]
                have h1 := rawP_few ((b.drop k).take st) (rawP [] (b.take k)).1
                rw [List.length_take] at h1
                unfold maxLen
                omega
              · have := HAA.out x hx
                have := HLT.out
                omega
            · exact (((HB2.out.set_ 0 _).set_ 1 _).set_ 2 _).set_ 3 _
        case rest =>
          obtain ⟨A, q, c9, rfl, HQ, W2, HW⟩ := hcut
          have HRU := Lib.hid ha2
          clear z0 z1 z2 z3 c0 c1 c2 c3 ha2 HP hsl
          obtain ⟨i0, hi0, hz0, hz1, hz2⟩ := info_parts infoLn
          have HOWN : Hid (wc.ownsRow (w1.heap.size + 1) 35 2 vo (frTold n (b.take k)).length (linCells (frTold n (b.take k)))) := by
            have h1 := ownsRow_kept HAK.out.lin HW.out.1
            refine h1.kept HW.out.2.2.1 ?_
            cases hv : vo.ownBlock with
            | none => exact .inl rfl
            | some x => exact .inr (fun e => by injection e with e; have := (HAK.out.lin.lt x hv).1; omega)
          have hq9 : q ≤ 20000 := by
            have h1 := rawP_few ((b.drop k).take st) (rawP [] (b.take k)).1
            have h2 := HQ.out
            have h3 := HN.out
            rw [List.length_take, List.length_drop] at h1
            omega
          have hf9 : (frTold n (b.take k)).length ≤ 20000 := by
            have h1 := frTold_few n (b.take k)
            have h3 := HN.out
            rw [List.length_take] at h1
            omega
          have HSZ : Hid (w1.heap.size + 1 ≤ wc.heap.size) := by
            have h1 := HAK.out.hb
            have h2 := HW.out.1.size
            have h3 := HW.out.2.2.1.size
            show w1.heap.size + 1 ≤ wc.heap.size
            omega
          have HNX : Hid (∀ v' W4, W4.ownsRow (w1.heap.size + 1) 35 2 v' ((frTold n (b.take k)).length + q) (linCells (frTold n (b.take k)) ++ linCells ((rawP (rawP [] (b.take k)).1 ((b.drop k).take st)).2.map (lineP n))) → wc.grownBy W4 vo.ownBlock → AllW w W4 w1.heap.size (w1.heap.size + 1) n b (k + st) v') := fun v' W4 h1 h2 => HAK.out.next st HW.out.1 HW.out.2.2.1 HW.out.2.2.2 (by rw [← HQ.out]; exact h1) h2
          have HLC : Hid ((linCells ((rawP (rawP [] (b.take k)).1 ((b.drop k).take st)).2.map (lineP n))).length = q * 2) := by
            show _ = _
            rw [linCells_len, List.length_map, HQ.out]
          have HRA := Lib.hid HW.out.2.1
          have hlo := ln_one (ls := (rawP (rawP [] (b.take k)).1 ((b.drop k).take st)).2.map (lineP n))
          have HLO := Lib.hid hlo
          clear hlo HW HQ
          generalize linCells ((rawP (rawP [] (b.take k)).1 ((b.drop k).take st)).2.map (lineP n)) = news at *
          generalize hfl : (frTold n (b.take k)).length = fl at HOWN HNX hf9
          clear hfl
          generalize linCells (frTold n (b.take k)) = olds at *
          go_wp2_with (at_builtin; refine wpList_append_rows rfl _ _ 27 rfl (w1.heap.size + 1) 35 i0 _ 2 24 Try.underlying27 hi0 hz0 hz1 hz2 rfl (by decide) vo fl olds rfl HOWN.out A q c9 news rfl HLC.out HRA.out HLO.out (by unfold maxLen; omega) (by omega) HSZ.out ?_)
          intro v' w4 ho4 hg4
          have HK := Lib.hid (HNX.out v' w4 ho4 hg4)
          clear ho4 hg4 HNX HOWN HAK HLC HRA HLO
          go_wp2
          go_roundw
          case rel => exact ⟨k + st, j + 1, a2, c' - st, v', rfl, by rw [Nat.sub_sub], by go_num, by omega, by omega, by omega, by rw [← List.drop_drop]; exact drop_bytes HBK.out st a2 (by rw [List.length_drop, HN.out]; exact HRU.out), HK⟩
          case measure => simp; omega
    · have hkN' : k = N := by omega
      have hbt : b.take k = b := by rw [hkN', ← HN.out, List.take_length]
      have hlt' : ¬ (0 : Int) < ((N - k : Nat) : Int) := by omega
      have bF := HAK.out.fr
      have bR := HAK.out.res
      have hln := HAK.out.lin
      have hfb := HAK.out.fb
      have hfw := HAK.out.fw
      rw [hbt] at bF hln
      have HLN := Lib.hid hln
      clear hln
      have z0 := bR.frozen 0
      have z1 := bR.frozen 1
      have z2 := bR.frozen 2
      have z3 := bR.frozen 3
      have q0 := bR.cell 0
      have q1 := bR.cell 1
      have q2 := bR.cell 2
      have q3 := bR.cell 3
      have c0 := bF.cell 0
      have c1 := bF.cell 1
      have c2 := bF.cell 2
      have c3 := bF.cell 3
      simp [frT, frCells] at c0 c1 c2 c3 q0 q1 q2 q3
      have bO := ((((bR.set_ 0 (.int .i64 (n : Int))).set_ 1 (.string (bs ((bodyP (rawP [] b).1).take n)))).set_ 2 (.bool (decide (n < (bodyP (rawP [] b).1).length)))).set_ 3 (.bool (lastCr (rawP [] b).1)))
      have HO : Hid (Blk _ w.heap.size 26 (frT n (rawP [] b).1)) := bO
      have HLO := Lib.hid ((((HAK.out.low.setCell (p := ⟨w.heap.size, 0, none⟩) (Nat.le_refl _) (.int .i64 (n : Int))).setCell (p := ⟨w.heap.size, 1, none⟩) (Nat.le_refl _) (.string (bs ((bodyP (rawP [] b).1).take n)))).setCell (p := ⟨w.heap.size, 2, none⟩) (Nat.le_refl _) (.bool (decide (n < (bodyP (rawP [] b).1).length)))).setCell (p := ⟨w.heap.size, 3, none⟩) (Nat.le_refl _) (.bool (lastCr (rawP [] b).1)))
      have HLI := Lib.hid (ownsRow_setCell_below (ownsRow_setCell_below (ownsRow_setCell_below (ownsRow_setCell_below HLN.out (a := ⟨w.heap.size, 0, none⟩) (by show w.heap.size < _; omega) (.int .i64 (n : Int))) (a := ⟨w.heap.size, 1, none⟩) (by show w.heap.size < _; omega) (.string (bs ((bodyP (rawP [] b).1).take n)))) (a := ⟨w.heap.size, 2, none⟩) (by show w.heap.size < _; omega) (.bool (decide (n < (bodyP (rawP [] b).1).length)))) (a := ⟨w.heap.size, 3, none⟩) (by show w.heap.size < _; omega) (.bool (lastCr (rawP [] b).1)))
      clear bF bR bO HLN HAK
      go_wp2
      refine bodyPost_ret (results_cell_tmp2 rfl _ _ w.heap.size 26 _ (0, 0) _ rfl HO.out Try.underlying26 rfl infoFr) rfl ?_
      exact ⟨vo, rfl, ownsRow_from HLI.out (by omega), HLO.out⟩
end Go.Proofs.Ytdgkedbnokdnfaa
