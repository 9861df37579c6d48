/-
  What path.Parse tells, and that no path is the beginning of another one. Conditions: the text is of at most 2^40 bytes; the library's variable holds some value.
-/
import Derived.Test.YtjgadocojdieeaaGreatDoorPtX
namespace Go.Proofs.YtjgadocojdieeaaGreatDoor
open Go.RowKit Go.Shelf

theorem verdict_ok {b lg : Bool} (h : verdictP b lg = 0) : b = true ∧ lg = false := by
  unfold verdictP at h
  cases b <;> cases lg <;> simp_all
theorem verdict_no (lg : Bool) : verdictP false lg = 150 := rfl
/-- what Parse tells of a text -/
theorem parseP_ok {s : List UInt8} (h : (parseP s).1 = 0) : ∃ t x, PathT t (parseP s).2.1 false ∧ s = t ++ x ∧ (parseP s).2.2 = t.length := by
  unfold parseP at h ⊢
  split at h
  · rename_i hv
    rw [if_pos hv]
    obtain ⟨h1, h2⟩ := verdict_ok hv
    obtain ⟨t, p, lg, k1, k2, k3⟩ := parse_some (s := s) (st' := (parseR (st0 s)).2) (Prod.ext h1 rfl)
    rw [k3] at h2
    have hlg : lg = false := h2
    subst hlg
    refine ⟨t, (parseR (st0 s)).2.rest, ?_, k2, ?_⟩
    · have : paOf (parseR (st0 s)).2 = p := by rw [k3]; rfl
      simp only
      rw [this]
      exact k1
    · simp only
      have := congrArg List.length k2
      rw [List.length_append] at this
      omega
  · rename_i hv
    simp only at h
    exact absurd h hv
theorem parseP_all {t : List UInt8} {p : Pa} (h : PathT t p false) (x : List UInt8) : parseP (t ++ x) = (0, p, t.length) := by
  have := parse_all (x := x) h
  unfold parseP
  rw [this]
  have hv : verdictP (true, withP (st0 []) p x false).1 (true, withP (st0 []) p x false).2.long = 0 := rfl
  rw [if_pos hv]
  simp [paOf, withP]
theorem pathT_pos {t : List UInt8} {p : Pa} {lg : Bool} (h : PathT t p lg) : 1 ≤ t.length := by
  rcases h with ⟨rfl, _⟩ | ⟨h1, _⟩ | ⟨rt, ds, l1, bt, loc, d, lit, l2, _, _, rfl, _⟩
  · simp
  · have := congrArg List.length h1
    rw [low_len] at this
    simp [aloneT, postP] at this
    omega
  · simp
/-- no path is the beginning of another one -/
theorem parseP_cut {s : List UInt8} (h : (parseP s).1 = 0) (c : Nat) (hc : c < (parseP s).2.2) : parseP (s.take c) = (150, {}, 0) := by
  obtain ⟨t, x, h1, h2, h3⟩ := parseP_ok h
  rw [h3] at hc
  have hn : (parseR (st0 (s.take c))).1 = false := by
    cases hp : (parseR (st0 (s.take c))).1 with
    | false => rfl
    | true =>
      exfalso
      obtain ⟨u, q, lg, k1, k2, _⟩ := parse_some (s := s.take c) (st' := (parseR (st0 (s.take c))).2) (Prod.ext hp rfl)
      have e : s = u ++ ((parseR (st0 (s.take c))).2.rest ++ s.drop c) := by
        conv => lhs; rw [← List.take_append_drop c s]
        rw [← List.append_assoc, ← k2]
      have e1 := parse_all (x := (parseR (st0 (s.take c))).2.rest ++ s.drop c) k1
      have e2 := parse_all (x := x) h1
      rw [← e] at e1
      rw [← h2, e1] at e2
      have e3 := congrArg (fun z : Bool × Rs => z.2.rest.length) e2
      simp only [withP] at e3
      have e4 := congrArg List.length h2
      rw [List.length_append] at e3 e4
      rw [List.length_drop] at e3
      omega
  unfold parseP
  rw [hn]
  rfl
theorem parseP_more {s : List UInt8} (h : (parseP s).1 = 0) (more : List UInt8) : parseP (s.take (parseP s).2.2 ++ more) = (0, (parseP s).2.1, (parseP s).2.2) ∧ 1 ≤ (parseP s).2.2 := by
  obtain ⟨t, x, h1, h2, h3⟩ := parseP_ok h
  have ht : s.take (parseP s).2.2 = t := by rw [h3]; conv => lhs; rw [h2]
                                            rw [List.take_left]
  rw [ht, h3]
  exact ⟨parseP_all h1 more, pathT_pos h1⟩
/-- a route is no longer than its text -/
theorem hopsT_len (L : List (List UInt8)) : L.length ≤ (hopsT L).length := by
  unfold hopsT
  induction L with
  | nil => simp
  | cons e L ih => simp at ih ⊢; omega
theorem pathT_route {t : List UInt8} {p : Pa} {lg : Bool} (h : PathT t p lg) : p.route.length ≤ t.length := by
  rcases h with ⟨rfl, rfl, _⟩ | ⟨_, rfl, _⟩ | ⟨rt, ds, l1, bt, loc, d, lit, l2, h1, _, rfl, rfl, _⟩
  · simp
  · simp
  · rcases h1 with ⟨_, rfl, _⟩ | ⟨e, L, _, rfl, rfl, _⟩
    · simp
    · have := hopsT_len L
      simp
      omega
theorem parseP_route (s : List UInt8) : (parseP s).2.1.route.length ≤ s.length := by
  by_cases h : (parseP s).1 = 0
  · obtain ⟨t, x, h1, h2, h3⟩ := parseP_ok h
    have e := congrArg List.length h2
    rw [List.length_append] at e
    have := pathT_route h1
    omega
  · unfold parseP at h ⊢
    split
    · rename_i hv; rw [if_pos hv] at h; exact absurd rfl h
    · simp
theorem parse_told (s : List UInt8) (hs : s.length ≤ 1099511627776) (w : World) (he : ErrAt w ∧ ErrG < w.heap.size) : Calls Tryz.prog 6 #[.string (bs s)] w fun e w' => ∃ a c, e = .returned (.tuple #[paV (parseP s).2.1 a c, .int .i64 (((parseP s).2.2 : Nat) : Int), .int .i64 (parseP s).1]) ∧ TextsAt w' a (parseP s).2.1.route ∧ Below w.heap.size w w' :=
  (parse_fun s hs w he.1 he.2).mono fun _ _ h => told_form h (by have := parseP_route s; unfold maxLen; omega)
theorem str_to (s : List UInt8) (j : Nat) (hj : j ≤ s.length) (W : World) : (Instr.slice 9 (.string (bs s)) none (some (.int .i64 (j : Int))) none).run Tryz.prog W = .ok (.string (bs (s.take j))) W := by
  rw [run_slice_string_h W 9 (bs s) Tryz.underlying9 .i64 (j : Int) (by omega) (by rw [bs_size]; omega)]
  congr 2
  simp only [Int.toNat_natCast]
  have : ((bs s).extract 0 j).data = (bs (s.take j)).data := by
    rw [ByteArray.data_extract]
    apply Array.toList_inj.1
    simp [bs, List.extract_eq_take_drop]
  cases h1 : (bs s).extract 0 j
  rw [h1] at this
  cases h2 : bs (s.take j)
  rw [h2] at this
  simp only at this
  rw [this]
end Go.Proofs.YtjgadocojdieeaaGreatDoor
