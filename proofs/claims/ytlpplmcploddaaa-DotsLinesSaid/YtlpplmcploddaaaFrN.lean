/-
  The contract of frame.Push. Conditions: the bytes lie in memory; fewer than a hundred thousand, and so the most.
-/
import Derived.Test.YtlpplmcploddaaaFrL
import Derived.WalkMore
namespace Go.Proofs.Ytlpplmcploddaaa
open Go.RowKit

theorem infoFr : (Try.prog.info? 35).map (·.size) = some 4 := by kernel_rfl
section
variable {w W : World} {F R B base m : Nat} {vl : Value} {H t b : List UInt8}
theorem PhAt.next_cr {k : Nat} (hk : k < b.length) (hx : b[k] = 13) {g c : Nat} {over cr : Bool} (h : PhW w W F R B base g c m vl ((rawP t (b.take k)).2.map (lineP m)) H (rawP t (b.take k)).1 over cr) : PhAt w (W.setCell ⟨F, 3, none⟩ (.bool true)) F R B base m t b (k + 1) H vl := by
  unfold PhAt
  rw [raw_next t b k hk, hx, rawS_on _ 13 (by decide)]
  simp only [List.append_nil, bodyP_cr, lastCr_snoc]
  exact ⟨g, c, over, h.put 3 (.bool true) over true rfl h.over_eq⟩
theorem PhAt.next_on {k : Nat} (hk : k < b.length) (hx : b[k] ≠ 13) (h2 : b[k] ≠ 10 ∨ lastCr (rawP t (b.take k)).1 = false) {g c : Nat} {over : Bool} (h : PhW w W F R B base g c m vl ((rawP t (b.take k)).2.map (lineP m)) H ((rawP t (b.take k)).1 ++ [b[k]]) over false) : PhAt w W F R B base m t b (k + 1) H vl := by
  unfold PhAt
  have hr : rawS (rawP t (b.take k)).1 b[k] = ((rawP t (b.take k)).1 ++ [b[k]], []) := h2.elim (fun h => rawS_on _ _ h) (fun h => rawS_no h _)
  rw [raw_next t b k hk, hr]
  simp only [List.append_nil, bodyP_on _ _ hx, lastCr_snoc]
  exact ⟨g, c, over, by rw [show decide (b[k] = 13) = false from by simp [hx]]; exact h⟩
theorem PhAt.next_line {k : Nat} (hk : k < b.length) (hx : b[k] = 10) (h2 : lastCr (rawP t (b.take k)).1 = true) {g c : Nat} {over : Bool} (ho : over = decide (m < (bodyP (rawP t (b.take k)).1).length))
    (h : PhW w W F R B base g c m vl ((rawP t (b.take k)).2.map (lineP m) ++ [⟨(bodyP (rawP t (b.take k)).1).take m, over⟩]) H [] false false) : PhAt w W F R B base m t b (k + 1) H vl := by
  unfold PhAt
  rw [raw_next t b k hk, hx, rawS_end h2]
  refine ⟨g, c, false, ?_⟩
  rw [List.map_append]
  subst ho
  exact h
end
set_option maxRecDepth 100000 in
set_option maxHeartbeats 4000000 in
theorem push_any (m : Nat) (t : List UInt8) (ba : Option Addr) (b : List UInt8) (cb : Nat) (w : World) (hb : BytesAt w ba b) (hm : m ≤ 100000) (hn : b.length ≤ 100000) :
    Calls Try.prog 14 #[.agg (frCells m ((bodyP t).take m) (decide (m < (bodyP t).length)) (lastCr t)), .slice ba b.length cb] w fun e W' => ∃ vl,
      e = .returned (.tuple #[.agg (frCells m ((bodyP (rawP t b).1).take m) (decide (m < (bodyP (rawP t b).1).length)) (lastCr (rawP t b).1)), vl]) ∧ W'.ownsRow w.heap.size 43 2 vl (rawP t b).2.length (linCells ((rawP t b).2.map (lineP m))) ∧ Below w.heap.size w W' := by
  have hmf : ∀ (fn : Fn) (first cap : Array Value) (w : World), (Instr.makeFunc fn first cap).run Try.prog w = .ok (.func fn first cap) w := fun _ _ _ _ => rfl
  obtain ⟨H, hH⟩ : ∃ H, H = (bodyP t).take m := ⟨_, rfl⟩
  obtain ⟨A, HA⟩ : ∃ A, Hid (A = (w.alloc (.cells (frCells m H (decide (m < (bodyP t).length)) (lastCr t)) 35)).alloc (.cells (frCells 0 [] false false) 35)) := ⟨_, rfl⟩
  have hA2 : A.heap.size = w.heap.size + 2 := by rw [HA.out]; simp
  have hcv := Lib.run_convert_string_bytes (P := Try.prog) A 9 22 5 (bs H) (u := .string) Try.underlying9 Try.underlying22 Try.underlying5
  have hlH : H.length ≤ 100000 := by rw [hH, List.length_take]; omega
  have hq := OwnQ.conv A (w.heap.size + 2) H (by unfold maxLen; omega) (by omega)
  have hbW : Below A.heap.size A (Lib.bytesWorld A 5 (bs H)) := ⟨rfl, rfl, rfl, by rw [Lib.bytesWorld_size]; omega, fun k hk => Lib.bytesWorld_at_old _ _ _ k hk⟩
  have hsW : (Lib.bytesWorld A 5 (bs H)).heap.size = w.heap.size + 3 := by rw [Lib.bytesWorld_size, hA2]
  rw [bs_size] at hcv
  generalize grownCap A H.length 0 5 = cp at *
  generalize Lib.bytesWorld A 5 (bs H) = W2 at *
  rw [hA2] at hcv hq
  rw [← hH]
  obtain ⟨ov, hov⟩ : ∃ ov, ov = decide (m < (bodyP t).length) := ⟨_, rfl⟩
  obtain ⟨cr, hcr⟩ : ∃ cr, cr = lastCr t := ⟨_, rfl⟩
  rw [← hov, ← hcr] at HA
  rw [← hov, ← hcr]
  have HS : Hid (PhAt w (W2.alloc (.cells #[.slice (some ⟨w.heap.size + 2, 0, none⟩) H.length cp] 22)) w.heap.size (w.heap.size + 1) W2.heap.size (w.heap.size + 2) m t b 0 H (.slice none 0 0)) := by
    refine ⟨w.heap.size + 2, cp, ov, ?_⟩
    rw [List.take_zero]
    show PhW w _ _ _ _ _ _ _ m _ [] H (bodyP t) ov (lastCr t)
    rw [← hcr]
    have hb0 : Below w.heap.size w A := by rw [HA.out]; exact ((Below.refl _ _).alloc (Nat.le_refl _) _).alloc (by simp) _
    have hF : Blk A w.heap.size 35 (frCells m H ov cr) := by rw [HA.out]; exact (Blk.new _ _ _).alloc _
    have hR : Blk A (w.heap.size + 1) 35 (frCells 0 [] false false) := by rw [HA.out]; exact Blk.new_at _ _ _ _ (by simp)
    refine ⟨(hb0.trans (hbW.mono (by omega))).alloc (by omega) _, (hF.below hbW hF.lt).alloc _, (hR.below hbW hR.lt).alloc _, ?_, ?_, World.ownsRow_nil _ _ _ _, by omega, by omega, Nat.le_refl _, by omega, by omega, by omega, ?_, hov⟩
    · rw [← hH]
      exact Blk.new _ _ _
    · rw [← hH]
      exact hq.alloc _
    · simp
      omega
  have HSW := Lib.hid hsW
  rw [HA.out] at hcv
  rw [show frCells 0 [] false false = #[.int .i64 0, .string ⟨#[]⟩, .bool false, .bool false] from rfl] at hcv
  unfold frCells at hcv
  clear hq hbW hA2 HA hsW hH hov hcr
  generalize hN : b.length = n at *
  have HN := Lib.hid hN
  clear hN
  have HB := Lib.hid hb
  clear hb
  rw [show (frCells m H ov cr) = #[.int .i64 m, .string (bs H), .bool ov, .bool cr] from rfl]
  go_enter Try.func14, Try.ntmps14
  go_wp2
  go_step3
  go_wp2
  go_step3
  go_wp2
  go_loopw [6, 17] (fun lv i wr => ∃ (k : Nat) (vl : Value), vl = lv ∧ k ≤ n ∧ i = .int .i64 k ∧ Hid (PhAt w wr w.heap.size (w.heap.size + 1) W2.heap.size (w.heap.size + 2) m t b k H vl)) (fun _ i _ => n - (intOf i).toNat)
  case atStart => exact ⟨0, _, rfl, Nat.zero_le _, rfl, HS⟩
  case round =>
    obtain ⟨k, vl, rfl, hk, rfl, hrel⟩ := hrel
    obtain ⟨g, c, over, hp⟩ := hrel.out
    clear hrel HS hcv
    have hbw : BytesAt wr ba b := RowAt.below HB.out hp.low
    have c0 := hp.hv.cell 0
    have z0 := hp.hv.frozen 0
    have f2 := hp.fr.cell 2
    have f3 := hp.fr.cell 3
    have z3 := hp.fr.frozen 3
    by_cases hlt : k < n
    · have hkb : k < b.length := by rw [HN.out]; exact hlt
      have hlt' : (k : Int) < (n : Int) := by omega
      obtain ⟨b0, off, rfl, hcx⟩ := BytesAt.at_ hbw hkb
      cases hcr : lastCr (rawP t (b.take k)).1 with
      | true =>
        by_cases hx : b[k] = 10
        · have hx' : ((b[k].toNat : Nat) : Int) = 10 := by rw [hx]; rfl
          rw [hx'] at hcx
          rw [hcr] at hp f2 f3
          have hcv := conv_any wr (some ⟨g, 0, none⟩) _ c hp.own.bytes
          have hal := hp.later ((Below.refl wr.heap.size wr).alloc (Nat.le_refl _) (.cells #[.string (bs ((bodyP (rawP t (b.take k)).1).take m)), .bool over] 43))
          have HLN : Hid (∀ (w1 : World) (vl' : Value), w1.ownsRow (w.heap.size + 2) 43 2 vl' (((rawP t (b.take k)).2.map (lineP m)).length + 1) (linCells ((rawP t (b.take k)).2.map (lineP m)) ++ lnCells (⟨(bodyP (rawP t (b.take k)).1).take m, over⟩ : LnP)) → (wr.alloc (.cells #[.string (bs ((bodyP (rawP t (b.take k)).1).take m)), .bool over] 43)).grownBy w1 vl.ownBlock →
              Blk w1 W2.heap.size 22 #[.slice (some ⟨g, 0, none⟩) ((bodyP (rawP t (b.take k)).1).take m).length c] ∧ Blk w1 w.heap.size 35 (frCells m H over true) ∧ PhAt w (((w1.setCell ⟨W2.heap.size, 0, none⟩ (.slice (some ⟨g, 0, none⟩) 0 c)).setCell ⟨w.heap.size, 2, none⟩ (.bool false)).setCell ⟨w.heap.size, 3, none⟩ (.bool false)) w.heap.size (w.heap.size + 1) W2.heap.size (w.heap.size + 2) m t b (k + 1) H vl') := fun w1 vl' h1 h2 => by
            obtain ⟨b1, b2, h3⟩ := hal.line h1 h2
            exact ⟨b1, b2, PhAt.next_line hkb hx hcr hp.over_eq h3⟩
          have HLI := Lib.hid hal.lin
          have HLB := Lib.hid hal.hb
          have hnB := hp.ne
          have hfew : ((rawP t (b.take k)).2.map (lineP m)).length ≤ 100000 := by
            rw [List.length_map]
            have := rawP_few (b.take k) t
            rw [List.length_take] at this
            omega
          clear hp hal
          obtain ⟨i0, hi0, hz0, hz1, hz2⟩ := info_parts infoLn
          generalize (rawP t (b.take k)).2.map (lineP m) = ls at *
          generalize (bodyP (rawP t (b.take k)).1).take m = held at *
          simp [frCells] at f2 f3 c0
          go_wp2_with (at_builtin; refine wpList_append_lies _ rfl _ _ 39 rfl (w.heap.size + 2) 43 i0 _ 2 24 Try.underlying39 hi0 hz0 hz1 hz2 rfl (by decide) vl ls.length (linCells ls) (by rfl) HLI.out ⟨wr.heap.size, 0, none⟩ 1 1 [.string (bs held), .bool over] (by rfl) (by rfl) (World.news_of_block (cs := #[.string (bs held), .bool over]) (t := 43) (fr := (0, 0)) (heap_alloc_new wr _)) ?c1 (by omega) ?c2 ?c3 ?c4 (wr.heap.size + 1) (by simp) ?_)
          case c1 => intro u hu; simp at hu; rcases hu with rfl | rfl <;> rfl
          case c2 => unfold maxLen; omega
          case c3 => omega
          case c4 => have := HLB.out; simpa using this
          intro gg cap w1 hown hgrow _ _
          obtain ⟨b1, b2, hpl⟩ := HLN.out _ _ hown hgrow
          have HF := Lib.hid hpl
          have c10 := b1.cell 0
          have z10 := b1.frozen 0
          have b3 := b2.other (p := ⟨W2.heap.size, 0, none⟩) (by show w.heap.size ≠ W2.heap.size; omega) (.slice (some ⟨g, 0, none⟩) 0 c)
          have c12 := b3.cell 2
          have z12 := b3.frozen 2
          have b4 := b3.set_ 2 (.bool false)
          have c13 := b4.cell 3
          have z13 := b4.frozen 3
          simp [frCells] at c10 c12 c13
          clear b1 b2 b3 b4 hpl hown hgrow HLN HLI HLB
          go_wp2
          go_roundw
          case rel => exact ⟨k + 1, _, rfl, by omega, by go_num, HF⟩
          case measure => simp [intOf]; omega
        · have hx10 : ¬ ((b[k].toNat : Nat) : Int) = 10 := fun h => hx (by apply UInt8.toNat_inj.1; show b[k].toNat = 10; omega)
          have hb10 : (((b[k].toNat : Nat) : Int) == 10) = false := by simpa using hx10
          rw [hcr] at hp f3
          have K13 : Calls Try.prog 24 #[.int .u8 13, .pointer (some ⟨W2.heap.size, 0, none⟩), .pointer (some ⟨w.heap.size, 0, none⟩)] wr fun e W' => e = .returned (.tuple #[]) ∧ ∃ g' c' o2, PhW w W' w.heap.size (w.heap.size + 1) W2.heap.size (w.heap.size + 2) g' c' m vl ((rawP t (b.take k)).2.map (lineP m)) H (bodyP (rawP t (b.take k)).1 ++ [13]) o2 true := keep_any hp 13 hm
          rw [← lastCr_end hcr] at K13
          simp [frCells] at f2 f3
          clear c0 z0 hbw
          by_cases hx13 : b[k] = 13
          · have hx' : ((b[k].toNat : Nat) : Int) = 13 := by rw [hx13]; rfl
            rw [hx'] at hcx
            go_wp2_with (go_at_call 24; refine K13.mono ?_)
            rintro e w1 ⟨rfl, g1, c1, o1, hp1⟩
            have z31 := hp1.fr.frozen 3
            have c31 := hp1.fr.cell 3
            have c33 : (w1.setCell ⟨w.heap.size, 3, none⟩ (.bool true)).cell? ⟨w.heap.size, 3, none⟩ = some (.bool true) := (hp1.fr.set_ 3 (.bool true)).cell 3
            have HF := Lib.hid (PhAt.next_cr hkb hx13 hp1)
            simp [frCells] at c31
            go_wp2
            go_roundw
            case rel => exact ⟨k + 1, _, rfl, by omega, by go_num, HF⟩
            case measure => simp [intOf]; omega
          · have hx13' : ¬ ((b[k].toNat : Nat) : Int) = 13 := fun h => hx13 (by apply UInt8.toNat_inj.1; show b[k].toNat = 13; omega)
            have hb13 : (((b[k].toNat : Nat) : Int) == 13) = false := by simpa using hx13'
            go_wp2_with (go_at_call 24; refine K13.mono ?_)
            rintro e w1 ⟨rfl, g1, c1, o1, hp1⟩
            have z31 := hp1.fr.frozen 3
            have c31 := hp1.fr.cell 3
            have c33 : (w1.setCell ⟨w.heap.size, 3, none⟩ (.bool false)).cell? ⟨w.heap.size, 3, none⟩ = some (.bool false) := (hp1.fr.set_ 3 (.bool false)).cell 3
            have hp3 := hp1.put 3 (.bool false) o1 false rfl hp1.over_eq
            have KX := keep_any hp3 b[k] hm
            simp [frCells] at c31
            go_wp2_with (go_at_call 24; refine KX.mono ?_)
            rintro e w2 ⟨rfl, g2, c2, o2, hp4⟩
            have HF := Lib.hid (PhAt.next_on hkb hx13 (.inl hx) hp4)
            go_wp2
            go_roundw
            case rel => exact ⟨k + 1, _, rfl, by omega, by go_num, HF⟩
            case measure => simp [intOf]; omega
      | false =>
        rw [hcr] at hp f3
        rw [bodyP_no hcr] at hp
        simp [frCells] at f2 f3
        clear c0 z0 hbw
        by_cases hx13 : b[k] = 13
        · have hx' : ((b[k].toNat : Nat) : Int) = 13 := by rw [hx13]; rfl
          rw [hx'] at hcx
          have z31 := hp.fr.frozen 3
          have c31 := hp.fr.cell 3
          have c33 : (wr.setCell ⟨w.heap.size, 3, none⟩ (.bool true)).cell? ⟨w.heap.size, 3, none⟩ = some (.bool true) := (hp.fr.set_ 3 (.bool true)).cell 3
          have HF := Lib.hid (PhAt.next_cr hkb hx13 hp)
          simp [frCells] at c31
          go_wp2
          go_roundw
          case rel => exact ⟨k + 1, _, rfl, by omega, by go_num, HF⟩
          case measure => simp [intOf]; omega
        · have hx13' : ¬ ((b[k].toNat : Nat) : Int) = 13 := fun h => hx13 (by apply UInt8.toNat_inj.1; show b[k].toNat = 13; omega)
          have hb13 : (((b[k].toNat : Nat) : Int) == 13) = false := by simpa using hx13'
          have z31 := hp.fr.frozen 3
          have c31 := hp.fr.cell 3
          have c33 : (wr.setCell ⟨w.heap.size, 3, none⟩ (.bool false)).cell? ⟨w.heap.size, 3, none⟩ = some (.bool false) := (hp.fr.set_ 3 (.bool false)).cell 3
          have hp3 := hp.put 3 (.bool false) over false rfl hp.over_eq
          have KX := keep_any hp3 b[k] hm
          simp [frCells] at c31
          go_wp2_with (go_at_call 24; refine KX.mono ?_)
          rintro e w2 ⟨rfl, g2, c2, o2, hp4⟩
          have HF := Lib.hid (PhAt.next_on hkb hx13 (.inr hcr) hp4)
          go_wp2
          go_roundw
          case rel => exact ⟨k + 1, _, rfl, by omega, by go_num, HF⟩
          case measure => simp [intOf]; omega
    · have hkn : k = n := by omega
      have hbt : b.take k = b := by rw [hkn, ← HN.out, List.take_length]
      rw [hbt] at hp f3 f2 c0
      have hcv := conv_any wr (some ⟨g, 0, none⟩) _ c hp.own.bytes
      have z1 := hp.fr.frozen 1
      have c1 := hp.fr.cell 1
      have bF : Blk (wr.setCell ⟨w.heap.size, 1, none⟩ (.string (bs ((bodyP (rawP t b).1).take m)))) w.heap.size 35 (frCells m ((bodyP (rawP t b).1).take m) over (lastCr (rawP t b).1)) := hp.fr.set_ 1 _
      have bR : Blk (wr.setCell ⟨w.heap.size, 1, none⟩ (.string (bs ((bodyP (rawP t b).1).take m)))) (w.heap.size + 1) 35 (frCells 0 [] false false) := hp.res.other (p := ⟨w.heap.size, 1, none⟩) (by show w.heap.size + 1 ≠ w.heap.size; omega) _
      have HP := Lib.hid hp
      clear hbw hp f2 f3 z3
      have hlt' : ¬ (k : Int) < (n : Int) := by omega
      generalize hheld : (bodyP (rawP t b).1).take m = held at bF bR c0 hcv
      have HH := Lib.hid hheld
      clear hheld
      have g0 := bF.cell 0
      have g1 := bF.cell 1
      have g2 := bF.cell 2
      have g3 := bF.cell 3
      have r0 := bR.frozen 0
      have r1 := bR.frozen 1
      have r2 := bR.frozen 2
      have r3 := bR.frozen 3
      have q0 := bR.cell 0
      have q1 := bR.cell 1
      have q2 := bR.cell 2
      have q3 := bR.cell 3
      simp [frCells] at c0 c1 g0 g1 g2 g3 q0 q1 q2 q3
      have bO := (((bR.set_ 0 (.int .i64 (m : Int))).set_ 1 (.string (bs held))).set_ 2 (.bool over)).set_ 3 (.bool (lastCr (rawP t b).1))
      have HO : Hid (Blk (((((wr.setCell ⟨w.heap.size, 1, none⟩ (.string (bs held))).setCell ⟨w.heap.size + 1, 0, none⟩ (.int .i64 (m : Int))).setCell ⟨w.heap.size + 1, 1, none⟩ (.string (bs held))).setCell ⟨w.heap.size + 1, 2, none⟩ (.bool over)).setCell ⟨w.heap.size + 1, 3, none⟩ (.bool (lastCr (rawP t b).1))) (w.heap.size + 1) 35 (frCells m held over (lastCr (rawP t b).1))) := bO
      have hlow := ((((HP.out.low.setCell (p := ⟨w.heap.size, 1, none⟩) (Nat.le_refl _) (.string (bs held))).setCell (p := ⟨w.heap.size + 1, 0, none⟩) (Nat.le_succ _) (.int .i64 (m : Int))).setCell (p := ⟨w.heap.size + 1, 1, none⟩) (Nat.le_succ _) (.string (bs held))).setCell (p := ⟨w.heap.size + 1, 2, none⟩) (Nat.le_succ _) (.bool over)).setCell (p := ⟨w.heap.size + 1, 3, none⟩) (Nat.le_succ _) (.bool (lastCr (rawP t b).1))
      have hlin := ownsRow_setCell_below (ownsRow_setCell_below (ownsRow_setCell_below (ownsRow_setCell_below (ownsRow_setCell_below HP.out.lin (a := ⟨w.heap.size, 1, none⟩) (by show w.heap.size < w.heap.size + 2; omega) (.string (bs held))) (a := ⟨w.heap.size + 1, 0, none⟩) (by show w.heap.size + 1 < w.heap.size + 2; omega) (.int .i64 (m : Int))) (a := ⟨w.heap.size + 1, 1, none⟩) (by show w.heap.size + 1 < w.heap.size + 2; omega) (.string (bs held))) (a := ⟨w.heap.size + 1, 2, none⟩) (by show w.heap.size + 1 < w.heap.size + 2; omega) (.bool over)) (a := ⟨w.heap.size + 1, 3, none⟩) (by show w.heap.size + 1 < w.heap.size + 2; omega) (.bool (lastCr (rawP t b).1))
      have HLO := Lib.hid hlow
      have HLI := Lib.hid hlin
      clear bF bR bO hlow hlin
      go_wp2
      refine bodyPost_ret (results_cell_tmp rfl _ _ (w.heap.size + 1) 35 _ (0, 0) _ rfl HO.out Try.underlying35 rfl infoFr) rfl ?_
      refine ⟨vl, ?_, ?_, HLO.out⟩
      · rw [HH.out, ← HP.out.over_eq]
        rfl
      · have := HLI.out
        rw [List.length_map] at this
        exact ownsRow_from this (by omega)
end Go.Proofs.Ytlpplmcploddaaa
