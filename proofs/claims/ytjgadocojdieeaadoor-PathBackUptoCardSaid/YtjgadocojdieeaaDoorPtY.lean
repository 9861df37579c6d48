/-
  The contract of frankinglaw15.PathFront. Conditions: the texts are of at most 2^39 bytes; the library's variable holds some value.
-/
import Derived.Test.YtjgadocojdieeaaDoorPtX
namespace Go.Proofs.YtjgadocojdieeaaDoor
open Go.RowKit Go.Shelf

theorem verdict_ok {b lg : Bool} (h : verdictP b lg = 0) : b = true ∧ lg = false := by
  unfold verdictP at h
  cases b <;> cases lg <;> simp_all
theorem verdict_no (lg : Bool) : verdictP false lg = 150 := rfl
/-- what Parse tells of a text -/
theorem parseP_ok {s : List UInt8} (h : (parseP s).1 = 0) : ∃ t x, PathT t (parseP s).2.1 false ∧ s = t ++ x ∧ (parseP s).2.2 = t.length := by
  unfold parseP at h ⊢
  split at h
  · rename_i hv
    rw [if_pos hv]
    obtain ⟨h1, h2⟩ := verdict_ok hv
    obtain ⟨t, p, lg, k1, k2, k3⟩ := parse_some (s := s) (st' := (parseR (st0 s)).2) (Prod.ext h1 rfl)
    rw [k3] at h2
    have hlg : lg = false := h2
    subst hlg
    refine ⟨t, (parseR (st0 s)).2.rest, ?_, k2, ?_⟩
    · have : paOf (parseR (st0 s)).2 = p := by rw [k3]; rfl
      simp only
      rw [this]
      exact k1
    · simp only
      have := congrArg List.length k2
      rw [List.length_append] at this
      omega
  · rename_i hv
    simp only at h
    exact absurd h hv
theorem parseP_all {t : List UInt8} {p : Pa} (h : PathT t p false) (x : List UInt8) : parseP (t ++ x) = (0, p, t.length) := by
  have := parse_all (x := x) h
  unfold parseP
  rw [this]
  have hv : verdictP (true, withP (st0 []) p x false).1 (true, withP (st0 []) p x false).2.long = 0 := rfl
  rw [if_pos hv]
  simp [paOf, withP]
theorem pathT_pos {t : List UInt8} {p : Pa} {lg : Bool} (h : PathT t p lg) : 1 ≤ t.length := by
  rcases h with ⟨rfl, _⟩ | ⟨h1, _⟩ | ⟨rt, ds, l1, bt, loc, d, lit, l2, _, _, rfl, _⟩
  · simp
  · have := congrArg List.length h1
    rw [low_len] at this
    simp [aloneT, postP] at this
    omega
  · simp
/-- no path is the beginning of another one -/
theorem parseP_cut {s : List UInt8} (h : (parseP s).1 = 0) (c : Nat) (hc : c < (parseP s).2.2) : parseP (s.take c) = (150, {}, 0) := by
  obtain ⟨t, x, h1, h2, h3⟩ := parseP_ok h
  rw [h3] at hc
  have hn : (parseR (st0 (s.take c))).1 = false := by
    cases hp : (parseR (st0 (s.take c))).1 with
    | false => rfl
    | true =>
      exfalso
      obtain ⟨u, q, lg, k1, k2, _⟩ := parse_some (s := s.take c) (st' := (parseR (st0 (s.take c))).2) (Prod.ext hp rfl)
      have e : s = u ++ ((parseR (st0 (s.take c))).2.rest ++ s.drop c) := by
        conv => lhs; rw [← List.take_append_drop c s]
        rw [← List.append_assoc, ← k2]
      have e1 := parse_all (x := (parseR (st0 (s.take c))).2.rest ++ s.drop c) k1
      have e2 := parse_all (x := x) h1
      rw [← e] at e1
      rw [← h2, e1] at e2
      have e3 := congrArg (fun z : Bool × Rs => z.2.rest.length) e2
      simp only [withP] at e3
      have e4 := congrArg List.length h2
      rw [List.length_append] at e3 e4
      rw [List.length_drop] at e3
      omega
  unfold parseP
  rw [hn]
  rfl
theorem parseP_more {s : List UInt8} (h : (parseP s).1 = 0) (more : List UInt8) : parseP (s.take (parseP s).2.2 ++ more) = (0, (parseP s).2.1, (parseP s).2.2) ∧ 1 ≤ (parseP s).2.2 := by
  obtain ⟨t, x, h1, h2, h3⟩ := parseP_ok h
  have ht : s.take (parseP s).2.2 = t := by rw [h3]; conv => lhs; rw [h2]
                                            rw [List.take_left]
  rw [ht, h3]
  exact ⟨parseP_all h1 more, pathT_pos h1⟩
/-- a route is no longer than its text -/
theorem hopsT_len (L : List (List UInt8)) : L.length ≤ (hopsT L).length := by
  unfold hopsT
  induction L with
  | nil => simp
  | cons e L ih => simp at ih ⊢; omega
theorem pathT_route {t : List UInt8} {p : Pa} {lg : Bool} (h : PathT t p lg) : p.route.length ≤ t.length := by
  rcases h with ⟨rfl, rfl, _⟩ | ⟨_, rfl, _⟩ | ⟨rt, ds, l1, bt, loc, d, lit, l2, h1, _, rfl, rfl, _⟩
  · simp
  · simp
  · rcases h1 with ⟨_, rfl, _⟩ | ⟨e, L, _, rfl, rfl, _⟩
    · simp
    · have := hopsT_len L
      simp
      omega
theorem parseP_route (s : List UInt8) : (parseP s).2.1.route.length ≤ s.length := by
  by_cases h : (parseP s).1 = 0
  · obtain ⟨t, x, h1, h2, h3⟩ := parseP_ok h
    have e := congrArg List.length h2
    rw [List.length_append] at e
    have := pathT_route h1
    omega
  · unfold parseP at h ⊢
    split
    · rename_i hv; rw [if_pos hv] at h; exact absurd rfl h
    · simp
theorem parse_told (s : List UInt8) (hs : s.length ≤ 1099511627776) (w : World) (he : ErrAt w ∧ ErrG < w.heap.size) : Calls Tryd.prog 10 #[.string (bs s)] w fun e w' => ∃ a c, e = .returned (.tuple #[paV (parseP s).2.1 a c, .int .i64 (((parseP s).2.2 : Nat) : Int), .int .i64 (parseP s).1]) ∧ TextsAt w' a (parseP s).2.1.route ∧ Below w.heap.size w w' :=
  (parse_fun s hs w he.1 he.2).mono fun _ _ h => told_form h (by have := parseP_route s; unfold maxLen; omega)
theorem str_to (s : List UInt8) (j : Nat) (hj : j ≤ s.length) (W : World) : (Instr.slice 9 (.string (bs s)) none (some (.int .i64 (j : Int))) none).run Tryd.prog W = .ok (.string (bs (s.take j))) W := by
  rw [run_slice_string_h W 9 (bs s) Tryd.underlying9 .i64 (j : Int) (by omega) (by rw [bs_size]; omega)]
  congr 2
  simp only [Int.toNat_natCast]
  have : ((bs s).extract 0 j).data = (bs (s.take j)).data := by
    rw [ByteArray.data_extract]
    apply Array.toList_inj.1
    simp [bs, List.extract_eq_take_drop]
  cases h1 : (bs s).extract 0 j
  rw [h1] at this
  cases h2 : bs (s.take j)
  rw [h2] at this
  simp only at this
  rw [this]
set_option maxRecDepth 100000 in
set_option maxHeartbeats 4000000 in
theorem front_any (s : List UInt8) (m : Nat) (hm : m < 65536) (more : List UInt8) (hs : s.length ≤ 549755813888) (hmo : more.length ≤ 549755813888) (w : World) (he : ErrAt w ∧ ErrG < w.heap.size) :
    Calls Tryd.prog 5 #[.string (bs s), .int .u16 (m : Int), .string (bs more)] w (SameOut w true) := by
  have HE := Lib.hid he
  have HP := Lib.hid (parse_told s (by omega) w he)
  have HQ : Hid (∀ w', Below w.heap.size w w' → SameOut w true (.returned (.bool true)) w') := fun w' h => ⟨rfl, h⟩
  have HAW := Lib.hid (fun W (hW : Below w.heap.size w W) => awake_any W (ErrAt.later he hW))
  have hsz : (bs s).size = s.length := rfl
  have hsm : (bs more).size = more.length := rfl
  generalize SameOut w true = Q at *
  by_cases h0 : (parseP s).1 = 0
  · have hlen := parse_short s
    obtain ⟨hmr, hpos⟩ := parseP_more h0 more
    obtain ⟨n, hn⟩ : ∃ n, n = (parseP s).2.2 := ⟨_, rfl⟩
    have hcut := parseP_cut h0 (m % n) (by rw [← hn]; exact Nat.mod_lt _ (by omega))
    obtain ⟨p, hp⟩ : ∃ p, p = (parseP s).2.1 := ⟨_, rfl⟩
    rw [h0, ← hn, ← hp] at HP
    rw [← hn, ← hp] at hmr
    rw [← hn] at hpos hlen
    have HPC := Lib.hid (fun W (hW : ErrAt W ∧ ErrG < W.heap.size) => parse_told (s.take (m % n)) (by rw [List.length_take]; omega) W hW)
    have HPM := Lib.hid (fun W (hW : ErrAt W ∧ ErrG < W.heap.size) => parse_told (s.take n ++ more) (by rw [List.length_append, List.length_take]; omega) W hW)
    simp only [hcut] at HPC
    simp only [hmr] at HPM
    obtain ⟨q, hq⟩ : ∃ q, q = m % n := ⟨_, rfl⟩
    have hql : q < n := by rw [hq]; exact Nat.mod_lt _ (by omega)
    have hrem : (m : Int).tmod (n : Int) = (q : Int) := by rw [hq, Int.tmod_eq_emod_of_nonneg (by omega), Int.natCast_emod]
    rw [← hq] at HPC
    have hcutS : ∀ W, (Instr.slice 9 (.string (bs s)) none (some (.int .i64 (q : Int))) none).run Tryd.prog W = .ok (.string (bs (s.take q))) W := fun W => str_to s q (by omega) W
    have hcutN : ∀ W, (Instr.slice 9 (.string (bs s)) none (some (.int .i64 (n : Int))) none).run Tryd.prog W = .ok (.string (bs (s.take n))) W := fun W => str_to s n hlen W
    have hadd : ∀ W, (Op.stringOp .add (bs (s.take n)) (bs more)).run Tryd.prog W = .ok (.string (bs (s.take n ++ more))) W := fun W => by
      rw [run_string_add_sum W (bs (s.take n)) (bs more) (by rw [bs_size, bs_size, List.length_take]; omega), bs_app]
    have hpz : (1 : Int) ≤ (n : Int) := by omega
    have hpd : decide ((n : Int) < 1) = false := by simp; omega
    have hlz : n ≤ s.length := by omega
    have hld : decide (s.length < n) = false := by simp; omega
    have hmz : (m : Int) < 65536 := by omega
    have hm0 : (0 : Int) ≤ (m : Int) := by omega
    clear h0 hcut hmr hp hn hm hlen hpos he hq hql
    go_enter Tryd.func5, Tryd.ntmps5
    go_upto_region 2 with (go_at_call 10; refine HP.out.mono ?_; rintro e w2 ⟨a2, c2, rfl, ht2, hb2⟩; unfold paV paCells; have HT2 := Lib.hid ht2; have HB2 := Lib.hid hb2; clear ht2 hb2 HP)
    obtain ⟨W3, hW3⟩ : ∃ W, W = w2.alloc (.cells #[.bool p.null, .slice a2 p.route.length c2, .string (bs p.loc), .string (bs p.dom), .bool p.lit] 26) := ⟨_, rfl⟩
    obtain ⟨g3, hg3⟩ : ∃ g, g = w2.heap.size := ⟨_, rfl⟩
    have HK3 : Hid (Blk W3 g3 26 #[.bool p.null, .slice a2 p.route.length c2, .string (bs p.loc), .string (bs p.dom), .bool p.lit]) := by rw [hW3, hg3]; exact Blk.new _ _ _
    have HA3 : Hid (Below w2.heap.size w2 W3) := by rw [hW3]; exact (Below.refl _ w2).alloc (Nat.le_refl _) _
    have HL3 : Hid (Below w.heap.size w W3) := low_trans HB2.out HA3.out
    rw [← hW3, ← hg3]
    clear hW3 hg3
    go_upto_region 7 with (go_at_call 10; refine (HPC.out _ (ErrAt.later HE.out HL3.out)).mono ?_; rintro e w4 ⟨a4, c4, rfl, ht4, hb4⟩; unfold paV paCells; have HB4 := Lib.hid hb4; clear ht4 hb4)
    change Code.wp _ _ _ _ (World.alloc w4 (Obj.cells #[.bool false, .slice a4 0 c4, .string ⟨#[]⟩, .string ⟨#[]⟩, .bool false] 26))
    obtain ⟨W5, hW5⟩ : ∃ W, W = w4.alloc (.cells #[.bool false, .slice a4 0 c4, .string ⟨#[]⟩, .string ⟨#[]⟩, .bool false] 26) := ⟨_, rfl⟩
    obtain ⟨g5, hg5⟩ : ∃ g, g = w4.heap.size := ⟨_, rfl⟩
    have HK5 : Hid (Blk W5 g5 26 #[.bool false, .slice a4 0 c4, .string ⟨#[]⟩, .string ⟨#[]⟩, .bool false]) := by rw [hW5, hg5]; exact Blk.new _ _ _
    have HA5 : Hid (Below w4.heap.size w4 W5) := by rw [hW5]; exact (Below.refl _ w4).alloc (Nat.le_refl _) _
    have HL5 : Hid (Below w.heap.size w W5) := low_trans (low_trans HL3.out HB4.out) HA5.out
    rw [← hW5, ← hg5]
    clear hW5 hg5
    go_upto_region 8 with (go_at_call 10; refine (HPM.out _ (ErrAt.later HE.out HL5.out)).mono ?_; rintro e w6 ⟨a6, c6, rfl, ht6, hb6⟩; unfold paV paCells; have HT6 := Lib.hid ht6; have HB6 := Lib.hid hb6; clear ht6 hb6)
    obtain ⟨W7, hW7⟩ : ∃ W, W = w6.alloc (.cells #[.bool p.null, .slice a6 p.route.length c6, .string (bs p.loc), .string (bs p.dom), .bool p.lit] 26) := ⟨_, rfl⟩
    obtain ⟨g7, hg7⟩ : ∃ g, g = w6.heap.size := ⟨_, rfl⟩
    have HK7 : Hid (Blk W7 g7 26 #[.bool p.null, .slice a6 p.route.length c6, .string (bs p.loc), .string (bs p.dom), .bool p.lit]) := by rw [hW7, hg7]; exact Blk.new _ _ _
    have HA7 : Hid (Below w6.heap.size w6 W7) := by rw [hW7]; exact (Below.refl _ w6).alloc (Nat.le_refl _) _
    have HL7 : Hid (Below w.heap.size w W7) := low_trans (low_trans HL5.out HB6.out) HA7.out
    rw [← hW7, ← hg7]
    clear hW7 hg7
    have hk3 : Blk W7 g3 26 #[.bool p.null, .slice a2 p.route.length c2, .string (bs p.loc), .string (bs p.dom), .bool p.lit] := ((((HK3.out.below HB4.out HK3.out.lt).below HA5.out (Nat.lt_of_lt_of_le HK3.out.lt HB4.out.size)).below HB6.out (Nat.lt_of_lt_of_le HK3.out.lt (Nat.le_trans HB4.out.size HA5.out.size))).below HA7.out (Nat.lt_of_lt_of_le HK3.out.lt (Nat.le_trans HB4.out.size (Nat.le_trans HA5.out.size HB6.out.size))))
    have ht2 : TextsAt W7 a2 p.route := RowAt.below (RowAt.below (RowAt.below (RowAt.below (RowAt.below HT2.out HA3.out) HB4.out) HA5.out) HB6.out) HA7.out
    have ht6 : TextsAt W7 a6 p.route := RowAt.below HT6.out HA7.out
    have HSM := Lib.hid (same_any p p a2 a6 c2 c6 W7 ht2 ht6)
    rw [decide_eq_true rfl] at HSM
    unfold paV paCells at HSM
    have x0 := hk3.cell 0
    have x1 := hk3.cell 1
    have x2 := hk3.cell 2
    have x3 := hk3.cell 3
    have x4 := hk3.cell 4
    have y0 := HK7.out.cell 0
    have y1 := HK7.out.cell 1
    have y2 := HK7.out.cell 2
    have y3 := HK7.out.cell 3
    have y4 := HK7.out.cell 4
    simp at x0 x1 x2 x3 x4 y0 y1 y2 y3 y4
    clear hk3 ht2 ht6 HPC HPM hadd hcutS hcutN hrem
    go_wp2_with (first | (go_at_call 11; refine HSM.out.mono ?_; rintro e w8 ⟨rfl, hb8⟩; have HL8 := Lib.hid (low_trans HL7.out hb8); clear hb8) | (go_at_call 13; refine (HAW.out _ HL8.out).mono ?_; rintro e w9 ⟨rfl, hb9⟩; have HL9 := Lib.hid (low_trans HL8.out hb9); clear hb9))
    exact HQ.out w9 HL9.out
  · obtain ⟨z, hz⟩ : ∃ z, z = (parseP s).1 := ⟨_, rfl⟩
    rw [← hz] at HP h0
    have hzb : (z == 0) = false := by simpa using h0
    clear hz h0 he
    go_enter Tryd.func5, Tryd.ntmps5
    go_upto_region 2 with (go_at_call 10; refine HP.out.mono ?_; rintro e w2 ⟨a2, c2, rfl, ht2, hb2⟩; unfold paV paCells; have HB2 := Lib.hid hb2; clear ht2 hb2 HP)
    generalize (parseP s).2.1 = p at *
    obtain ⟨W3, hW3⟩ : ∃ W, W = w2.alloc (.cells #[.bool p.null, .slice a2 p.route.length c2, .string (bs p.loc), .string (bs p.dom), .bool p.lit] 26) := ⟨_, rfl⟩
    obtain ⟨g3, hg3⟩ : ∃ g, g = w2.heap.size := ⟨_, rfl⟩
    have HK3 : Hid (Blk W3 g3 26 #[.bool p.null, .slice a2 p.route.length c2, .string (bs p.loc), .string (bs p.dom), .bool p.lit]) := by rw [hW3, hg3]; exact Blk.new _ _ _
    have HA3 : Hid (Below w2.heap.size w2 W3) := by rw [hW3]; exact (Below.refl _ w2).alloc (Nat.le_refl _) _
    have HL3 : Hid (Below w.heap.size w W3) := low_trans HB2.out HA3.out
    rw [← hW3, ← hg3]
    clear hW3 hg3
    go_wp2_with (go_at_call 13; refine (HAW.out _ HL3.out).mono ?_; rintro e w9 ⟨rfl, hb9⟩; have HL9 := Lib.hid (low_trans HL3.out hb9); clear hb9)
    exact HQ.out w9 HL9.out
end Go.Proofs.YtjgadocojdieeaaDoor
