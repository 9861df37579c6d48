/-
  The contract of frankinglaw13.DotsLines. Conditions: the slice lies in memory; the library's MaxLen holds some number.
-/
import Derived.Test.YtlpplmcploddaaaDtX
import Derived.Test.YtlpplmcploddaaaFrS
import Derived.Deep.RegionHeld3
import Derived.Deep.RegionLaw
import Derived.Deep.DeepCutAuto
namespace Go.Proofs.Ytlpplmcploddaaa
open Go.RowKit Go.Shelf

theorem decode_one {a : Option Addr} {b : List UInt8} {m : Nat} (hm : b.length = m) {c : Nat} (hc : m ≤ c) (hm2 : m ≤ 100000) {w : World} (h : BytesAt w a b) {mx : Int} (hmx : w.cell? ⟨0, 0, none⟩ = some (.int .i64 mx)) :
    Calls Try.prog 9 #[.slice a m c] w fun e w' => ∃ A c' body n ok, e = .returned (.tuple #[.slice A (List.length body) c', .int .i64 ((n : Nat) : Int), .bool ok]) ∧ BytesAt w' A body ∧ Below w.heap.size w w' ∧ ((ok = false ∧ readD b = none ∧ n = 0 ∧ body = []) ∨ (ok = true ∧ readD b = some (body, n))) := by
  rcases hr : readD b with _ | ⟨body, n⟩
  · refine (decode_no hm hc (by omega) h hmx hr).mono ?_
    rintro e w' ⟨rfl, h1⟩
    exact ⟨none, 0, [], 0, false, rfl, ⟨by decide, fun h => absurd h (by decide)⟩, h1, .inl ⟨rfl, rfl, rfl, rfl⟩⟩
  · have hs := (again_of b body n hr).small
    refine (decode_yes hm hc (by omega) h hmx hr (by omega)).mono ?_
    rintro e w' ⟨A, c', rfl, h1, _, h2⟩
    exact ⟨A, c', body, n, true, rfl, h1, h2, .inr ⟨rfl, rfl⟩⟩
theorem push_lines (b : List UInt8) (a : Option Addr) (m c : Nat) (hm : b.length = m) (hm2 : m ≤ 1500) (w : World) (h : BytesAt w a b) :
    Calls Try.prog 14 #[.agg #[.int .i64 2000, .string ⟨#[]⟩, .bool false, .bool false], .slice a m c] w fun e W' => ∃ X ov cr A c', e = .returned (.tuple #[.agg #[.int .i64 2000, .string X, .bool ov, .bool cr], .slice A (linesD b).length c']) ∧ RowAt W' A (linCells ((linesD b).map fun l => ⟨l, false⟩)) ∧ Below w.heap.size w W' := by
  subst hm
  have := push_any 2000 [] a b c w h (by omega) (by omega)
  rw [show frCells (2000 : Nat) ((bodyP []).take 2000) (decide (2000 < (bodyP []).length)) (lastCr []) = #[.int .i64 2000, .string ⟨#[]⟩, .bool false, .bool false] from by kernel_rfl] at this
  refine this.mono ?_
  rintro e W' ⟨vl, rfl, ho, hb⟩
  obtain ⟨A, c', rfl⟩ := own_slice' ho
  refine ⟨_, _, _, A, c', rfl, ?_, hb⟩
  have hl : ∀ l ∈ linesD b, l.length ≤ 1500 := by
    intro l hl
    have h1 := congrArg List.length (split_eq b)
    rw [List.length_append] at h1
    have h2 : ∀ (L : List (List UInt8)), l ∈ L → l.length ≤ (joinEnds L).length := by
      intro L
      induction L with
      | nil => intro h; cases h
      | cons x r ih =>
        intro h
        simp only [joinEnds, List.length_append, List.length_cons]
        rcases List.mem_cons.1 h with h | h
        · rw [h]; omega
        · have := ih h; omega
    have := h2 _ hl
    omega
  have e1 : (rawP [] b).2.map (lineP 2000) = (linesD b).map fun l => ⟨l, false⟩ := by
    refine List.map_congr_left fun l h => ?_
    have := hl l h
    unfold lineP
    rw [List.take_of_length_le (by omega), decide_eq_false (by omega)]
  rw [e1] at ho
  refine row_of_own ho ?_
  rw [linCells_len, List.length_map]
  have := items_few 0 b
  have h3 : (linesD b).length ≤ (itemsD 0 b).length := by unfold itemsD; rw [List.length_append, itemsE_len]; omega
  unfold maxLen
  omega
theorem joinEnds_take (L : List (List UInt8)) (k : Nat) : (joinEnds (L.take k)).length ≤ (joinEnds L).length := by
  have h := congrArg (fun l => (joinEnds l).length) (List.take_append_drop k L)
  simp only [joinEnds_app, List.length_append] at h
  omega
theorem lines_len (b : List UInt8) : (joinEnds (linesD b)).length ≤ b.length := by
  have h1 := congrArg List.length (split_eq b)
  rw [List.length_append] at h1
  omega
theorem flat_len (L : List (List UInt8)) : (L.flatMap lineU).length ≤ (joinEnds L).length := by
  induction L with
  | nil => exact Nat.le_refl _
  | cons l ls ih =>
    have : (unstD l).length ≤ l.length := by unfold unstD; split <;> simp
    simp only [List.flatMap_cons, lineU, joinEnds, List.length_append, List.length_cons, List.length_nil]
    omega
theorem join_snoc (L : List (List UInt8)) (l : List UInt8) : (joinEnds (L ++ [l])).length = (joinEnds L).length + (l.length + 2) := by
  rw [joinEnds_app, List.length_append]
  simp [joinEnds]
theorem flat_snoc (L : List (List UInt8)) (l : List UInt8) : (L ++ [l]).flatMap lineU = L.flatMap lineU ++ (unstD l ++ [13, 10]) := by
  rw [List.flatMap_append]
  simp [lineU]
set_option maxRecDepth 100000 in
set_option maxHeartbeats 1000000 in
theorem lines_law (a0 : Option Addr) (b0 : List UInt8) (c0 : Nat) (w : World) (hb0 : BytesAt w a0 b0) (hc0 : b0.length ≤ c0) (mx : Int) (hmx : w.cell? ⟨0, 0, none⟩ = some (.int .i64 mx)) :
    Calls Try.prog 6 #[.slice a0 b0.length c0] w fun e w' => e = .returned (.bool true) ∧ Below w.heap.size w w' := by
  have hg0 : 0 < w.heap.size := World.block_lt_of_cell? w ⟨0, 0, none⟩ hmx
  have HMX : Hid (∀ W, Below w.heap.size w W → W.cell? ⟨0, 0, none⟩ = some (.int .i64 mx)) := fun W hb => (hb.cell (p := ⟨0, 0, none⟩) hg0).trans hmx
  have HAW : Hid (∀ W, Below w.heap.size w W → Calls Try.prog 7 #[] W fun e w' => e = .returned (.bool true) ∧ Below W.heap.size W w') := fun W hb => awake_any W mx (HMX.out W hb)
  obtain ⟨n0, hn0⟩ : ∃ n0, n0 = b0.length := ⟨_, rfl⟩
  rw [← hn0] at hc0
  rw [← hn0]
  by_cases h0 : n0 ≤ 1500
  · have h0' : ¬ (1500 : Int) < (n0 : Int) := by omega
    have HB0 := Lib.hid hb0
    have HN0 := Lib.hid hn0
    have hN := new_yes 2000 (by decide) (by decide) w
    rw [show frCells (2000 : Nat) [] false false = #[.int .i64 2000, .string ⟨#[]⟩, .bool false, .bool false] from by kernel_rfl, show ((2000 : Nat) : Int) = 2000 from rfl] at hN
    have HN := Lib.hid hN
    clear hN hb0 hmx hn0 hg0
    go_enter Try.func6, Try.ntmps6
    go_upto_region 4 with (go_at_call 13; refine HN.out.mono ?_; rintro e w1 ⟨rfl, hb1⟩; have HL1 := Lib.hid hb1; clear hb1 HN)
    have hF1 : Blk (w1.alloc (.cells #[.int .i64 2000, .string ⟨#[]⟩, .bool false, .bool false] 35)) w1.heap.size 35 #[.int .i64 2000, .string ⟨#[]⟩, .bool false, .bool false] := Blk.new _ _ _
    have hL2 : Below w.heap.size w (w1.alloc (.cells #[.int .i64 2000, .string ⟨#[]⟩, .bool false, .bool false] 35)) := HL1.out.alloc HL1.out.size _
    generalize w1.alloc (.cells #[.int .i64 2000, .string ⟨#[]⟩, .bool false, .bool false] 35) = W1 at *
    generalize w1.heap.size = f1 at *
    have HL2 := Lib.hid hL2
    have HP := Lib.hid (push_lines b0 a0 n0 c0 HN0.out.symm h0 W1 (RowAt.below HB0.out hL2))
    obtain ⟨nl, hnl⟩ : ∃ nl, nl = (linesD b0).length := ⟨_, rfl⟩
    rw [← hnl] at HP
    have HNL := Lib.hid hnl
    have ac0 := hF1.cell 0
    have ac1 := hF1.cell 1
    have ac2 := hF1.cell 2
    have ac3 := hF1.cell 3
    simp at ac0 ac1 ac2 ac3
    clear hL2 hF1 HL1 hnl
    go_upto_region 5 with (go_at_call 14; refine HP.out.mono ?_; rintro e w3 ⟨X, ov, cr, A3, c3, rfl, hrow3, hb3⟩; have HR3 := Lib.hid hrow3; have HL3 := Lib.hid (low_trans HL2.out hb3); clear hrow3 hb3 HP)
    clear ac0 ac1 ac2 ac3
    have HR4 : Hid (RowAt (w3.alloc (.cells #[.int .i64 2000, .string X, .bool ov, .bool cr] 35)) A3 (linCells ((linesD b0).map fun l => ⟨l, false⟩))) := RowAt.below HR3.out ((Below.refl _ _).alloc (Nat.le_refl _) _)
    have HL4 : Hid (Below w.heap.size w (w3.alloc (.cells #[.int .i64 2000, .string X, .bool ov, .bool cr] 35))) := HL3.out.alloc HL3.out.size _
    clear HR3 HL3 HL2
    generalize w3.alloc (.cells #[.int .i64 2000, .string X, .bool ov, .bool cr] 35) = W4 at *
    have HD := Lib.hid (decode_one (a := a0) HN0.out.symm (c := c0) hc0 (by omega) (RowAt.below HB0.out HL4.out) (HMX.out _ HL4.out))
    go_upto_region 9 with (go_at_call 9; refine HD.out.mono ?_; rintro e w5 ⟨A5, c5, body, n, ok, rfl, hby5, hb5, hdec⟩; have HBY5 := Lib.hid hby5; have HB5 := Lib.hid hb5; have HL5 := Lib.hid (low_trans HL4.out hb5); have HDEC := Lib.hid hdec; clear hby5 hb5 hdec HD)
    have HR5 : Hid (RowAt w5 A3 (linCells ((linesD b0).map fun l => ⟨l, false⟩))) := RowAt.below HR4.out HB5.out
    obtain ⟨k5, hk5⟩ : ∃ k5, k5 = body.length := ⟨_, rfl⟩
    rw [← hk5]
    have HK5 := Lib.hid hk5
    clear hk5 HR4 HL4 HB5
    have hnl2 : nl ≤ 1500 := by
      have h1 := joinEnds_ge (linesD b0)
      have h2 := lines_len b0
      have := HNL.out
      have := HN0.out
      omega
    go_wp2_with fail
    go_loopw [10, 11, 40] (fun bd tk i wr => ∃ (k T : Nat) (R : ByteArray), k ≤ nl ∧ bd = .string R ∧ tk = .int .i64 (T : Int) ∧ i = .int .i64 (k : Int) ∧ R.size ≤ 1500 ∧ T ≤ 1500 ∧ Hid (R = bs (((linesD b0).take k).flatMap lineU)) ∧ Hid (T = (joinEnds ((linesD b0).take k)).length) ∧ Hid (∀ l ∈ (linesD b0).take k, l ≠ [46]) ∧ Hid (Below w5.heap.size w5 wr)) (fun _ _ i _ => nl - (intOf i).toNat)
    case atStart => exact ⟨0, 0, ⟨#[]⟩, Nat.zero_le _, rfl, rfl, rfl, by decide, by decide, rfl, rfl, (fun l hl => by cases hl), Below.refl _ _⟩
    case round =>
      obtain ⟨k, T, R, hk, rfl, rfl, rfl, hRs, hTs, HR, HT, HNE, HB⟩ := hrel
      by_cases hlt : k < nl
      · have hko : k < (linesD b0).length := by rw [← HNL.out]; exact hlt
        obtain ⟨l, hl⟩ : ∃ l, l = (linesD b0)[k] := ⟨_, rfl⟩
        have htk := take_snoc (linesD b0) k hko
        rw [← hl] at htk
        obtain ⟨g, off, rfl, c1, c2⟩ := line_at (RowAt.below HR5.out HB.out) (k := k) (by rw [List.length_map]; exact hko)
        simp only [List.getElem_map, ← hl] at c1 c2
        have hjl := join_snoc ((linesD b0).take k) l
        rw [← htk] at hjl
        have hj2 := joinEnds_take (linesD b0) (k + 1)
        have hj3 := lines_len b0
        have hll : l.length + 2 + T ≤ 1500 := by have := HT.out; have := HN0.out; omega
        have HLW : Hid (Below w.heap.size w wr) := low_trans HL5.out HB.out
        obtain ⟨S, hS⟩ : ∃ S, S = bs l := ⟨_, rfl⟩
        rw [← hS] at c1
        have hss : S.size = l.length := by rw [hS, bs_size]
        have HS := Lib.hid hS
        have HTK := Lib.hid htk
        have HSS := Lib.hid hss
        have hss2 : S.size + 2 + T ≤ 1500 := by omega
        have HDR : Hid (linesD b0 = (linesD b0).take k ++ l :: (linesD b0).drop (k + 1)) := by
          show _ = _
          rw [hl, ← List.drop_eq_getElem_cons hko, List.take_append_drop]
        clear hj2 hj3 hjl hl hS htk hko hll hss
        have hk0 : (0 : Int) ≤ (k : Int) := by omega
        have hkl : (k : Int) < (nl : Int) := by omega
        go_upto_region 12 with (fail)
        have hX : Blk (wr.alloc (.cells #[.string S, .bool false] 43)) wr.heap.size 43 #[.string S, .bool false] := Blk.new _ _ _
        have HX := Lib.hid hX
        have HLX : Hid (Below wr.heap.size wr (wr.alloc (.cells #[.string S, .bool false] 43))) := (Below.refl _ _).alloc (Nat.le_refl _) _
        have HLW6 : Hid (Below w.heap.size w (wr.alloc (.cells #[.string S, .bool false] 43))) := low_trans HLW.out HLX.out
        have HB56 : Hid (Below w5.heap.size w5 (wr.alloc (.cells #[.string S, .bool false] 43))) := low_trans HB.out HLX.out
        generalize wr.alloc (.cells #[.string S, .bool false] 43) = W6 at *
        clear HLX
        generalize wr.heap.size = b6 at *
        have HUN := Lib.hid (unstuff_any l (by have := HSS.out; omega) W6)
        rw [← HS.out] at HUN
        have x0 := HX.out.cell 0
        simp at x0
        clear hX HLW HB c1 c2
        obtain ⟨U, hU⟩ : ∃ U, U = bs (unstD l) := ⟨_, rfl⟩
        rw [← hU] at HUN
        have hUs : U.size ≤ S.size := by
          have h1 : (unstD l).length ≤ l.length := by unfold unstD; split <;> simp
          rw [hU, bs_size, HSS.out]
          exact h1
        have HU := Lib.hid hU
        clear hU
        have HXB : Hid (∀ W, Below W6.heap.size W6 W → W.cell? ⟨b6, 0, none⟩ = some (.string S)) := fun W hb => (HX.out.below hb HX.out.lt).cell 0
        have ht1 : (0 : Int) ≤ (T : Int) := by omega
        have ht2 : (T : Int) ≤ 1500 := by omega
        have ht3 : (S.size : Int) ≤ 1500 := by omega
        by_cases hl : l = [46]
        · rw [decide_eq_true hl] at HUN
          have hrd : readD b0 = some (((linesD b0).take k).flatMap lineU, T + 3) := by
            have h1 := read_pre ((linesD b0).take k) ((linesD b0).drop (k + 1)) HNE.out
            rw [← HT.out, ← hl] at h1
            exact (congrArg readL HDR.out).trans h1
          have h2 : ok = true ∧ body = ((linesD b0).take k).flatMap lineU ∧ n = T + 3 := by
            rcases HDEC.out with ⟨_, h2, _⟩ | ⟨h1, h2⟩
            · rw [hrd] at h2; cases h2
            · rw [hrd] at h2
              injection h2 with h2
              injection h2 with e1 e2
              exact ⟨h1, e1.symm, e2.symm⟩
          obtain ⟨rfl, hbody, hn⟩ := h2
          have hs1 : S.size = 1 := by rw [HSS.out, hl]; rfl
          have heq : ((n : Int) == (T : Int) + ((S.size : Int) + 2)) = true := by rw [beq_iff_eq]; omega
          have HBD := Lib.hid hbody
          clear hrd hl hbody hn hs1
          go_upto_region 15 with (go_at_call 15; refine HUN.out.mono ?_; rintro e w7 ⟨rfl, hb7⟩; have y0 := HXB.out _ hb7; have HB57 := Lib.hid (low_trans HB56.out hb7); have HL7 := Lib.hid (low_trans HLW6.out hb7); clear hb7 HUN)
          have hcv : (convert 22 9 (.slice A5 k5 c5)).run Try.prog w7 = .ok (.string R) w7 := by
            rw [HK5.out, HR.out, ← HBD.out]
            exact conv_any w7 A5 body c5 (RowAt.below HBY5.out HB57.out)
          have HA7 := Lib.hid (HAW.out w7 HL7.out)
          go_wp2_with (go_at_call 7; refine HA7.out.mono ?_; rintro e w8 ⟨rfl, hb8⟩; have HL8 := Lib.hid (low_trans HL7.out hb8); clear hb8)
          go_ret
          exact ⟨rfl, HL8.out⟩
        · rw [decide_eq_false hl] at HUN
          go_upto_region 16 with (go_at_call 15; refine HUN.out.mono ?_; rintro e w7 ⟨rfl, hb7⟩; have y0 := HXB.out _ hb7; have HB67 := Lib.hid hb7; have HB57 := Lib.hid (low_trans HB56.out hb7); have HL7 := Lib.hid (low_trans HLW6.out hb7); clear hb7 HUN)
          have HFIN : Hid (∀ W, Below w5.heap.size w5 W → ∃ (k' T' : Nat) (R' : ByteArray), k' ≤ nl ∧ Value.string (R ++ (U ++ ⟨#[13, 10]⟩)) = .string R' ∧ Value.int .i64 ((T : Int) + ((S.size : Int) + 2)) = .int .i64 (T' : Int) ∧ Value.int .i64 ((k : Int) + 1) = .int .i64 (k' : Int) ∧ R'.size ≤ 1500 ∧ T' ≤ 1500 ∧ Hid (R' = bs (((linesD b0).take k').flatMap lineU)) ∧ Hid (T' = (joinEnds ((linesD b0).take k')).length) ∧ Hid (∀ l ∈ (linesD b0).take k', l ≠ [46]) ∧ Hid (Below w5.heap.size w5 W)) := fun W hW => by
            have e1 : R ++ (U ++ ⟨#[13, 10]⟩) = bs (((linesD b0).take (k + 1)).flatMap lineU) := by
              rw [HTK.out, flat_snoc, bs_cat, bs_cat, ← HR.out, ← HU.out]
              rfl
            have e2 : T + (S.size + 2) = (joinEnds ((linesD b0).take (k + 1))).length := by rw [HTK.out, join_snoc, ← HT.out, HSS.out]
            refine ⟨k + 1, T + (S.size + 2), R ++ (U ++ ⟨#[13, 10]⟩), hlt, rfl, by push_cast; rfl, by push_cast; rfl, ?_, by omega, Lib.hid e1, Lib.hid e2, ?_, Lib.hid hW⟩
            · rw [e1, bs_size]
              have := flat_len ((linesD b0).take (k + 1))
              omega
            · show ∀ _ ∈ _, _
              rw [HTK.out]
              intro x hx
              rcases List.mem_append.1 hx with hx | hx
              · exact HNE.out x hx
              · rw [List.mem_singleton.1 hx]; exact hl
          have z1 : ¬ 9223372036854775807 < U.size + 2 := by omega
          have z2 : ¬ 9223372036854775807 < R.size + (U.size + 2) := by omega
          obtain ⟨V, hV⟩ : ∃ V, V = bs (stuffD (unstD l)) := ⟨_, rfl⟩
          have HSU := Lib.hid (fun W => stuff_any (unstD l) (by have h1 : (unstD l).length ≤ l.length := by unfold unstD; split <;> simp
                                                                have := HSS.out; omega) W)
          rw [← hV, ← HU.out] at HSU
          have HSW : Hid (∀ W, Below w7.heap.size w7 W → (Below w7.heap.size w7 W ∧ W.cell? ⟨b6, 0, none⟩ = some (.string S))) := fun W hW => ⟨hW, HXB.out W (low_trans HB67.out hW)⟩
          have HS1 := Lib.hid (HSW.out _ (Below.refl _ _).drew)
          by_cases hst : stuffD (unstD l) = l
          · obtain rfl : V = S := by rw [hV, hst, HS.out]
            clear hst hV
            first
              | (go_region_with ((go_at_call 16; refine (HSU.out _).mono ?_; rintro e w8 ⟨rfl, hb8⟩; have HS2 := Lib.hid (HSW.out _ (low_trans HS1.out.1 hb8)); have y2 := HS2.out.2; clear hb8)))
              | fail
            all_goals go_wp2
            all_goals go_roundw
            all_goals first | exact HFIN.out _ (low_trans HB57.out HS2.out.1) | (simp [intOf]; omega)
          · have hdot : l.head? = some 46 := by
              by_cases h : l.head? = some 46
              · exact h
              · exfalso
                apply hst
                have e : unstD l = l := by unfold unstD; rw [if_neg h]
                rw [e]
                unfold stuffD
                rw [if_neg h]
            have hSU : S = ⟨#[46]⟩ ++ U := by
              have e : l = 46 :: unstD l := by
                cases l with
                | nil => cases hdot
                | cons y r => injection hdot with hdot; subst hdot; simp [unstD]
              rw [HS.out, HU.out]
              conv => lhs; rw [e]
              rw [show (46 : UInt8) :: unstD l = [46] ++ unstD l from rfl, bs_cat]
              rfl
            have g1 : (V.toList == S.toList) = false := by
              rw [hV, HS.out, bs_toL, bs_toL]
              exact beq_eq_false_iff_ne.2 hst
            have g2 : (V.toList != S.toList) = true := by rw [bne, g1]; rfl
            have g3 : (S.toList != ((⟨#[46]⟩ : ByteArray) ++ U).toList) = false := by rw [← hSU]; simp
            have g4 : (S.toList == ((⟨#[46]⟩ : ByteArray) ++ U).toList) = true := by rw [← hSU]; simp
            have g5 : ¬ 9223372036854775807 < 1 + U.size := by omega
            have HSUE := Lib.hid hSU
            clear hst hV y0 hdot hSU
            go_region_held3 (fun W => Below w7.heap.size w7 W ∧ W.cell? ⟨b6, 0, none⟩ = some (.string S))
              (first | (with_reducible exact HS1.out) | (with_reducible exact HS2.out))
              ((go_at_call 16; refine (HSU.out _).mono ?_; rintro e w8 ⟨rfl, hb8⟩; have HS2 := Lib.hid (HSW.out _ (low_trans HS1.out.1 hb8)); clear hb8))
            all_goals go_wp2
            all_goals go_roundw
            all_goals first | exact HFIN.out _ (low_trans HB57.out HS2.out.1) | (simp [intOf]; omega)
      · have hkn : k = nl := by omega
        have hall : readD b0 = none := by
          unfold readD
          refine read_no _ fun l hl => HNE.out l ?_
          rw [hkn, HNL.out, List.take_length]
          exact hl
        have h2 : ok = false ∧ n = 0 ∧ body = [] := by
          rcases HDEC.out with ⟨h1, _, h3, h4⟩ | ⟨_, h2⟩
          · exact ⟨h1, h3, h4⟩
          · rw [hall] at h2; cases h2
        obtain ⟨rfl, rfl, hbody⟩ := h2
        have hk5 : k5 = 0 := by rw [HK5.out, hbody]; rfl
        subst hk5
        have HLW : Hid (Below w.heap.size w wr) := low_trans HL5.out HB.out
        have HA := Lib.hid (HAW.out wr HLW.out)
        subst hkn
        clear hbody hall HR5
        go_wp2_with (go_at_call 7; refine HA.out.mono ?_; rintro e w8 ⟨rfl, hb8⟩; have HL8 := Lib.hid (low_trans HLW.out hb8); clear hb8)
        go_ret
        exact ⟨rfl, HL8.out⟩
  · have h0' : (1500 : Int) < (n0 : Int) := by omega
    have HA := Lib.hid (HAW.out w (Below.refl _ _))
    clear hb0 hmx hn0 hg0
    go_enter Try.func6, Try.ntmps6
    go_wp2_with (go_at_call 7; refine HA.out.mono ?_; rintro e w9 ⟨rfl, hb9⟩; have HL9 := Lib.hid hb9; clear hb9)
    go_ret
    exact ⟨rfl, HL9.out⟩
end Go.Proofs.Ytlpplmcploddaaa
