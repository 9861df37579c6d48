/-
  The contract of frankinglaw12.FrameMore. Conditions: the bytes lie in memory.
-/
import Derived.Test.YtdgkedbnokdnfaaFcW
import Derived.Test.YtdgkedbnokdnfaaShelf
import Derived.Deep.DeepCutAuto
namespace Go.Proofs.Ytdgkedbnokdnfaa
open Go.RowKit

theorem prefix_take (u : List UInt8) (n m : Nat) (h : n ≤ m) : Lib.hasPrefix (bs (u.take m)).data.toList (bs (u.take n)).data.toList = true := by
  show (u.take n).isPrefixOf (u.take m) = true
  rw [List.isPrefixOf_iff_prefix]
  exact List.take_prefix_take_left h
theorem rawP_each : ∀ (b s t : List UInt8), t ∈ (rawP s b).2 → t.length ≤ s.length + b.length := by
  intro b
  induction b with
  | nil => intro s t h; simp [rawP] at h
  | cons c r ih =>
    intro s t h
    simp only [rawP, List.mem_append] at h
    rcases h with h | h
    · unfold rawS at h
      split at h
      · simp at h
        subst h
        simp
        omega
      · simp at h
    · have := ih _ _ h
      have h2 : (rawS s c).1.length ≤ s.length + 1 := by unfold rawS; split <;> simp
      simp only [List.length_cons]
      omega
/-- how a text lies to two mosts -/
theorem three_ways (L n m : Nat) (h : n ≤ m) : (m < L ∧ n < L) ∨ (n < L ∧ L ≤ m) ∨ (L ≤ n ∧ L ≤ m) := by omega
set_option maxRecDepth 100000 in
set_option maxHeartbeats 4000000 in
theorem more_any (mo mr : Nat) (hmo : mo < 65536) (hmr : mr < 65536) (ba : Option Addr) (b : List UInt8) (cb : Nat) (w : World) (hb : BytesAt w ba b) (hc : b.length ≤ cb) :
    Calls Try.prog 6 #[.int .u16 (mo : Int), .int .u16 (mr : Int), .slice ba b.length cb] w fun e w' => e = .returned (.bool true) ∧ Below w.heap.size w w' := by
  have HAW := Lib.hid (fun W => awake_any W)
  by_cases hl : b.length ≤ 3000
  · have hl' : ¬ (3000 : Int) < (b.length : Int) := by omega
    have hrem : (mo : Int).tmod 2000 = ((mo % 2000 : Nat) : Int) := rem_of mo 2000 (by decide)
    obtain ⟨n, hn⟩ : ∃ n, n = 1 + mo % 2000 := ⟨_, rfl⟩
    have hn1 : 1 ≤ n ∧ n ≤ 2000 := by omega
    have hm0 : (0 : Int) ≤ (mo : Int) := by omega
    have hm1 : (mo : Int) < 65536 := by omega
    have hm2 : (0 : Int) ≤ (mr : Int) := by omega
    have hm3 : (mr : Int) < 65536 := by omega
    have hni : (1 : Int) + ((mo % 2000 : Nat) : Int) = (n : Int) := by omega
    have hs0 : (0 : Int) ≤ ((mo % 2000 : Nat) : Int) := by omega
    have hs1 : ((mo % 2000 : Nat) : Int) < 2000 := by omega
    have hsub : (2001 : Int) - (n : Int) = ((2001 - n : Nat) : Int) := by omega
    have hpos : (0 : Int) < ((2001 - n : Nat) : Int) := by omega
    have hlim : ((2001 - n : Nat) : Int) ≤ 2001 := by omega
    have hrem2 : (mr : Int).tmod ((2001 - n : Nat) : Int) = ((mr % (2001 - n) : Nat) : Int) := rem_of mr (2001 - n) (by omega)
    obtain ⟨m, hm⟩ : ∃ m, m = n + mr % (2001 - n) := ⟨_, rfl⟩
    have hlt2 : mr % (2001 - n) < 2001 - n := Nat.mod_lt _ (by omega)
    have hmi : (n : Int) + ((mr % (2001 - n) : Nat) : Int) = (m : Int) := by omega
    have hnm : n ≤ m ∧ m ≤ 2000 := by omega
    have hs2 : (0 : Int) ≤ ((mr % (2001 - n) : Nat) : Int) := by omega
    have hs3 : ((mr % (2001 - n) : Nat) : Int) < 2001 := by omega
    have HA := Lib.hid (fun W (hW : Below w.heap.size w W) => all_at n hn1.1 hn1.2 ba b cb none [] 0 W (RowAt.below hb hW) hc (nil_bytes W) (by omega))
    have HB := Lib.hid (fun W (hW : Below w.heap.size w W) => all_at m (by omega) hnm.2 ba b cb none [] 0 W (RowAt.below hb hW) hc (nil_bytes W) (by omega))
    have hfn : (rawP [] b).2.length ≤ 3000 := Nat.le_trans (rawP_few b []) hl
    have e1 : (frTold n b) = (rawP [] b).2.map (lineP n) := rfl
    have e2 : (frTold m b) = (rawP [] b).2.map (lineP m) := rfl
    have e3 : (frTold n b).length = (rawP [] b).2.length := by rw [e1, List.length_map]
    have e4 : (frTold m b).length = (rawP [] b).2.length := by rw [e2, List.length_map]
    rw [e3, e1] at HA
    rw [e4, e2] at HB
    have htl : (bodyP (rawP [] b).1).length ≤ 3000 := by
      have h1 := rawP_short b []
      have h2 : (bodyP (rawP [] b).1).length ≤ (rawP [] b).1.length := by unfold bodyP; split <;> simp
      simp at h1
      omega
    have HTX : Hid (∀ t ∈ (rawP [] b).2, t.length ≤ 3000) := fun t ht => by have := rawP_each b [] t ht; simp at this; omega
    unfold frT frCells at HA HB
    generalize lastCr (rawP [] b).1 = cr at *
    generalize bodyP (rawP [] b).1 = U at *
    generalize (rawP [] b).2 = L at *
    generalize b.length = N at *
    generalize ((mo % 2000 : Nat) : Int) = r at *
    generalize ((mr % (2001 - n) : Nat) : Int) = r2 at *
    generalize ((2001 - n : Nat) : Int) = d2 at *
    clear hb hn hm hlt2 e1 e2 e3 e4
    go_enter Try.func6, Try.ntmps6
    go_upto_region 6 with (go_at_call 8; refine (HA.out _ (Below.refl _ _)).mono ?_; rintro e w1 ⟨A1, c1, rfl, ra1, hb1⟩)
    have hbA : Below w.heap.size w (w1.alloc (.cells #[.int .i64 (n : Int), .string (bs (U.take n)), .bool (decide (n < U.length)), .bool cr] 26)) := hb1.alloc hb1.size _
    have HF11 : Hid (Blk (w1.alloc (.cells #[.int .i64 (n : Int), .string (bs (U.take n)), .bool (decide (n < U.length)), .bool cr] 26)) w1.heap.size 26 #[.int .i64 (n : Int), .string (bs (U.take n)), .bool (decide (n < U.length)), .bool cr]) := Blk.new _ _ _
    have HR11 := Lib.hid (RowAt.below ra1 ((Below.refl w1.heap.size w1).alloc (Nat.le_refl _) (.cells #[.int .i64 (n : Int), .string (bs (U.take n)), .bool (decide (n < U.length)), .bool cr] 26)))
    have HL1 := Lib.hid (hbA)
    clear hbA hb1 ra1 
    generalize w1.alloc (.cells #[.int .i64 (n : Int), .string (bs (U.take n)), .bool (decide (n < U.length)), .bool cr] 26) = W1 at *
    generalize w1.heap.size = f1 at *
    go_upto_region 7 with (go_at_call 8; refine (HB.out _ HL1.out).mono ?_; rintro e w2 ⟨A2, c2, rfl, ra2, hb2⟩)
    have hbA : Below W1.heap.size W1 (w2.alloc (.cells #[.int .i64 (m : Int), .string (bs (U.take m)), .bool (decide (m < U.length)), .bool cr] 26)) := hb2.alloc hb2.size _
    have HF22 : Hid (Blk (w2.alloc (.cells #[.int .i64 (m : Int), .string (bs (U.take m)), .bool (decide (m < U.length)), .bool cr] 26)) w2.heap.size 26 #[.int .i64 (m : Int), .string (bs (U.take m)), .bool (decide (m < U.length)), .bool cr]) := Blk.new _ _ _
    have HR22 := Lib.hid (RowAt.below ra2 ((Below.refl w2.heap.size w2).alloc (Nat.le_refl _) (.cells #[.int .i64 (m : Int), .string (bs (U.take m)), .bool (decide (m < U.length)), .bool cr] 26)))
    have HR12 := Lib.hid (RowAt.below HR11.out hbA)
    have HF12 := Lib.hid (HF11.out.below hbA HF11.out.lt)
    have HL2 := Lib.hid (low_trans HL1.out hbA)
    clear hbA hb2 ra2 HR11 HF11 HL1
    generalize w2.alloc (.cells #[.int .i64 (m : Int), .string (bs (U.take m)), .bool (decide (m < U.length)), .bool cr] 26) = W2 at *
    generalize w2.heap.size = f2 at *
    clear HA HB
    have hF1 := HF12.out
    have hF2 := HF22.out
    have p1 := hF1.cell 1
    have p2 := hF1.cell 2
    have p3 := hF1.cell 3
    have q1 := hF2.cell 1
    have q2 := hF2.cell 2
    have q3 := hF2.cell 3
    simp at p1 p2 p3 q1 q2 q3
    clear hF1 hF2 HF12 HF22
    go_cut [87] (fun v wx => v = .bool false ∧ W2 = wx)
    case first =>
      have HPR := Lib.hid (fun W => Try.strings_HasPrefix (bs (U.take m)) (bs (U.take n)) W)
      rw [prefix_take U n m hnm.1] at HPR
      have hsz : (bs (U.take m)).size = min m U.length := List.length_take
      generalize bs (U.take n) = HN at *
      generalize bs (U.take m) = HM at *
      rcases three_ways U.length n m hnm.1 with ⟨u1, u2⟩ | ⟨u1, u2⟩ | ⟨u1, u2⟩
      · rw [show decide (n < U.length) = true from by simp [u2]] at p2
        rw [show decide (m < U.length) = true from by simp [u1]] at q2
        go_wp2_with (go_at_call 14; refine (HPR.out _).mono ?_; rintro e w' ⟨rfl, rfl⟩)
        go_meet
        exact ⟨rfl, rfl⟩
      · rw [show decide (n < U.length) = true from by simp [u1]] at p2
        rw [show decide (m < U.length) = false from by simp; omega] at q2
        have hgt : (n : Int) < (HM.size : Int) := by omega
        go_wp2_with (go_at_call 14; refine (HPR.out _).mono ?_; rintro e w' ⟨rfl, rfl⟩)
        go_meet
        exact ⟨rfl, rfl⟩
      · rw [show decide (n < U.length) = false from by simp; omega] at p2
        rw [show decide (m < U.length) = false from by simp; omega] at q2
        have hgt : ¬ (n : Int) < (HM.size : Int) := by omega
        go_wp2_with (go_at_call 14; refine (HPR.out _).mono ?_; rintro e w' ⟨rfl, rfl⟩)
        go_meet
        exact ⟨by rw [show decide (n < U.length) = false from by simp; omega], rfl⟩
    case rest =>
      obtain ⟨rfl, rfl⟩ := hcut
      go_wp2
      go_loopw [90] (fun i wr => ∃ k : Nat, k ≤ L.length ∧ i = .int .i64 k ∧ Hid (Below W2.heap.size W2 wr)) (fun i _ => L.length - (intOf i).toNat)
      case atStart => exact ⟨0, Nat.zero_le _, rfl, Below.refl _ _⟩
      case round =>
        obtain ⟨k, hk, rfl, HLW⟩ := hrel
        by_cases hlt : k < L.length
        · have hlt' : (k : Int) < (L.length : Int) := by omega
          have hk0 : (0 : Int) ≤ (k : Int) := by omega
          have hr1 := RowAt.below HR12.out HLW.out
          have hr2 := RowAt.below HR22.out HLW.out
          obtain ⟨g1, o1, rfl, x0, x1⟩ := line_at hr1 (k := k) (by rw [List.length_map]; exact hlt)
          obtain ⟨g2, o2, rfl, y0, y1⟩ := line_at hr2 (k := k) (by rw [List.length_map]; exact hlt)
          have hg2 : g2 < wr.heap.size := World.block_lt_of_cell? _ _ y0
          rw [List.getElem_map] at x0 x1 y0 y1
          have hu : L[k].length ≤ 3000 := HTX.out _ (List.getElem_mem hlt)
          generalize L[k] = u at *
          simp only [lineP] at x0 x1 y0 y1
          go_upto_region 12 with (fail)
          have hbA : Below wr.heap.size wr (wr.alloc (.cells #[.string (bs (u.take n)), .bool (decide (n < u.length))] 35)) := (Below.refl _ _).alloc (Nat.le_refl _) _
          have hX : Blk (wr.alloc (.cells #[.string (bs (u.take n)), .bool (decide (n < u.length))] 35)) wr.heap.size 35 #[.string (bs (u.take n)), .bool (decide (n < u.length))] := Blk.new _ _ _
          have y2 := (hbA.cell (p := ⟨g2, o2 + k * 2, none⟩) hg2).trans y0
          have y3 := (hbA.cell (p := ⟨g2, o2 + k * 2 + 1, none⟩) hg2).trans y1
          have x2 : (wr.alloc (.cells #[.string (bs (u.take n)), .bool (decide (n < u.length))] 35)).cell? ⟨wr.heap.size, 0, none⟩ = some (.string (bs (u.take n))) := hX.cell 0
          have x3 : (wr.alloc (.cells #[.string (bs (u.take n)), .bool (decide (n < u.length))] 35)).cell? ⟨wr.heap.size, 1, none⟩ = some (.bool (decide (n < u.length))) := hX.cell 1
          have HLX := Lib.hid (low_trans HLW.out hbA)
          clear hbA hX x0 x1 y0 y1 HLW
          generalize wr.alloc (.cells #[.string (bs (u.take n)), .bool (decide (n < u.length))] 35) = W4 at *
          generalize wr.heap.size = f3 at *
          go_cut [137] (fun v wx => v = .bool false ∧ ∃ q, wx = W4.drewN q)
          case first =>
            have HPR := Lib.hid (fun W => Try.strings_HasPrefix (bs (u.take m)) (bs (u.take n)) W)
            rw [prefix_take u n m hnm.1] at HPR
            obtain ⟨M1, hM1⟩ : ∃ M1, M1 = min m u.length := ⟨_, rfl⟩
            obtain ⟨N1, hN1⟩ : ∃ N1, N1 = min n u.length := ⟨_, rfl⟩
            have hsz : (bs (u.take m)).size = M1 := by rw [hM1]; exact List.length_take
            have hsz2 : (bs (u.take n)).size = N1 := by rw [hN1]; exact List.length_take
            generalize bs (u.take n) = HN at *
            generalize bs (u.take m) = HM at *
            rcases three_ways u.length n m hnm.1 with ⟨u1, u2⟩ | ⟨u1, u2⟩ | ⟨u1, u2⟩
            · rw [show decide (n < u.length) = true from by simp [u2]] at x3
              rw [show decide (m < u.length) = true from by simp [u1]] at y3
              have hmn : min (n : Int) (M1 : Int) = (N1 : Int) := by omega
              clear hM1 hN1
              go_quiet ((go_at_call 14; refine (HPR.out _).mono ?_; rintro e w' ⟨rfl, rfl⟩; exact ⟨rfl, _, rfl⟩))
              go_wp2
              go_meet
              exact ⟨rfl, _, rfl⟩
            · rw [show decide (n < u.length) = true from by simp [u1]] at x3
              rw [show decide (m < u.length) = false from by simp; omega] at y3
              have hgt : (n : Int) < (M1 : Int) := by omega
              have hgd : decide ((n : Int) < (M1 : Int)) = true := by simp; omega
              have hmn : min (n : Int) (M1 : Int) = (N1 : Int) := by omega
              clear hM1 hN1
              go_quiet ((go_at_call 14; refine (HPR.out _).mono ?_; rintro e w' ⟨rfl, rfl⟩; exact ⟨rfl, _, rfl⟩))
              go_wp2
              go_meet
              exact ⟨rfl, _, rfl⟩
            · rw [show decide (n < u.length) = false from by simp; omega] at x3
              rw [show decide (m < u.length) = false from by simp; omega] at y3
              have hgt : ¬ (n : Int) < (M1 : Int) := by omega
              have hgd : decide ((n : Int) < (M1 : Int)) = false := by simp; omega
              have hmn : min (n : Int) (M1 : Int) = (N1 : Int) := by omega
              clear hM1 hN1
              go_quiet ((go_at_call 14; refine (HPR.out _).mono ?_; rintro e w' ⟨rfl, rfl⟩; exact ⟨rfl, _, rfl⟩))
              go_wp2
              go_meet
              exact ⟨rfl, _, rfl⟩
          case rest =>
            obtain ⟨rfl, q, rfl⟩ := hcut
            go_wp2
            go_roundw
            case rel => exact ⟨k + 1, by omega, by go_num, below_drewN HLX.out q⟩
            case measure => simp [intOf]; omega
        · have hlt' : ¬ (k : Int) < (L.length : Int) := by omega
          go_wp2_with (go_at_call 7; refine (HAW.out _).mono ?_; rintro e w9 ⟨rfl, hb9⟩)
          go_ret
          exact ⟨rfl, low_trans HL2.out (low_trans HLW.out hb9)⟩
  · have hl' : (3000 : Int) < (b.length : Int) := by omega
    generalize b.length = N at *
    clear hb
    go_enter Try.func6, Try.ntmps6
    go_wp2_with (go_at_call 7; refine (HAW.out _).mono ?_; rintro e w1 ⟨rfl, hb1⟩)
    go_ret
    exact ⟨rfl, hb1⟩
end Go.Proofs.Ytdgkedbnokdnfaa
