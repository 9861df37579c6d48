/-
  Merged texts (CdQ, CdB, CdC, CdD, Gt, CdE, CdF), each under a head of its own that says what it proves and under which conditions.
-/
import Derived.Test.YtnkepdeegpampaaGreatDoorM05
import Derived.Lib.SplitLaws
/-
  Commands in plain terms: a command that was read is read of its line; letters of words great or small; blanks. No conditions.
-/
namespace Go.Proofs.YtnkepdeegpampaaGreatDoor

theorem verbF_some (u : List UInt8) : ∀ (f v : Nat), verbF u f v = 0 ∨ (v ≤ verbF u f v ∧ verbF u f v < v + f ∧ wordP (verbF u f v) = u)
  | 0, _ => .inl rfl
  | f + 1, v => by
    unfold verbF
    split
    · rename_i h; exact .inr ⟨Nat.le_refl _, by omega, h⟩
    · rcases verbF_some u f (v + 1) with h | ⟨h1, h2, h3⟩
      · exact .inl h
      · exact .inr ⟨by omega, by omega, h3⟩
theorem verb_some {w : List UInt8} (h : verbP w ≠ 0) : 1 ≤ verbP w ∧ verbP w ≤ 11 ∧ up w = wordP (verbP w) := by
  rcases verbF_some (up w) 11 1 with h0 | ⟨h1, h2, h3⟩
  · exact absurd h0 h
  · exact ⟨h1, by unfold verbP; omega, h3.symm⟩
theorem eleven {v : Nat} (h1 : 1 ≤ v) (h2 : v ≤ 11) : v = 1 ∨ v = 2 ∨ v = 3 ∨ v = 4 ∨ v = 5 ∨ v = 6 ∨ v = 7 ∨ v = 8 ∨ v = 9 ∨ v = 10 ∨ v = 11 := by omega
theorem verb_of {w : List UInt8} {v : Nat} (h1 : 1 ≤ v) (h2 : v ≤ 11) (h : up w = wordP v) : verbP w = v := by
  unfold verbP
  rw [h]
  rcases eleven h1 h2 with rfl | rfl | rfl | rfl | rfl | rfl | rfl | rfl | rfl | rfl | rfl <;> decide
theorem word_32 {v : Nat} (h1 : 1 ≤ v) (h2 : v ≤ 11) : ∀ x ∈ wordP v, x ≠ 32 ∧ x ≠ 9 := by
  rcases eleven h1 h2 with rfl | rfl | rfl | rfl | rfl | rfl | rfl | rfl | rfl | rfl | rfl <;> decide
theorem word_up {v : Nat} (h1 : 1 ≤ v) (h2 : v ≤ 11) : up (wordP v) = wordP v ∧ (wordP v).length = 4 := by
  rcases eleven h1 h2 with rfl | rfl | rfl | rfl | rfl | rfl | rfl | rfl | rfl | rfl | rfl <;> decide
theorem up_32 {w : List UInt8} {v : Nat} (h1 : 1 ≤ v) (h2 : v ≤ 11) (h : up w = wordP v) : ∀ x ∈ w, x ≠ 32 := fun x hx e => by
  have hm : upc x ∈ up w := List.mem_map.2 ⟨x, hx, rfl⟩
  rw [h, e] at hm
  exact (word_32 h1 h2 _ hm).1 rfl
theorem fine_low2 (l : List UInt8) : fineB (low l) = fineB l := by
  have := dom_all_low (l := low l) (m := l) (low_low l)
  unfold fineB
  rw [this.1, this.2]
theorem sml_91b : ∀ c, (sml c == 91) = (c == 91) := all_u8 (by decide +kernel)
theorem sml_93b : ∀ c, (sml c == 93) = (c == 93) := all_u8 (by decide +kernel)
theorem opt_map (o : Option UInt8) (k : UInt8) (h : ∀ c, (sml c == k) = (c == k)) : (o.map sml == some k) = (o == some k) := by
  cases o with
  | none => rfl
  | some c => exact h c
theorem br_low (s : List UInt8) : brP (low s) = brP s := by
  unfold brP
  have e1 : (low s).head? = s.head?.map sml := List.head?_map
  have e2 : ((low s).drop 1).getLast? = (s.drop 1).getLast?.map sml := by rw [← low_drop]; exact List.getLast?_map
  have e3 : ((low s).drop 1).dropLast = low ((s.drop 1).dropLast) := by rw [← low_drop]; exact (List.map_dropLast ..).symm
  rw [e1, e2, e3, opt_map _ _ sml_91b, opt_map _ _ sml_93b, words_all_low (low_low _)]
theorem from_up : up fromT = fromT ∧ up toT = toT := by decide
theorem domB_ne {l : List UInt8} (h : fineB l = true) : l ≠ [] := by
  rintro rfl
  unfold fineB at h
  rw [domB_nil] at h
  cases h
theorem br_ne {l : List UInt8} (h : brP l = true) : l ≠ [] := by
  rintro rfl
  revert h
  decide
theorem fine_nil : fineB [] = false := by unfold fineB; rw [domB_nil]; rfl
theorem br_nil : brP [] = false := rfl
/-- what a verb says, of all that may be said of it -/
theorem told_back {v : Nat} {b : List UInt8} {blank : Bool} {c : Cm} (h : toldP v b blank = (c, true)) (hb : blank = false → b = []) (h1 : 1 ≤ v) (h2 : v ≤ 11) :
    c.verb = v ∧ toldP v (behindP c) (!decide (behindP c = [])) = (c, true) ∧ (behindP c).length ≤ b.length := by
  rcases eleven h1 h2 with rfl | rfl | rfl | rfl | rfl | rfl | rfl | rfl | rfl | rfl | rfl
  · have e : toldP 1 b blank = (({ verb := 1, arg := low b } : Cm), fineB b) := rfl
    rw [e, Prod.mk.injEq] at h
    obtain ⟨rfl, hf⟩ := h
    refine ⟨rfl, ?_, by show (low b).length ≤ _; rw [low_len]; exact Nat.le_refl _⟩
    show (({ verb := 1, arg := low (low b) } : Cm), fineB (low b)) = _
    rw [low_low, fine_low2, hf]
  · have e : toldP 2 b blank = (({ verb := 2, arg := low b } : Cm), fineB b || brP b) := rfl
    rw [e, Prod.mk.injEq] at h
    obtain ⟨rfl, hf⟩ := h
    refine ⟨rfl, ?_, by show (low b).length ≤ _; rw [low_len]; exact Nat.le_refl _⟩
    show (({ verb := 2, arg := low (low b) } : Cm), fineB (low b) || brP (low b)) = _
    rw [low_low, fine_low2, br_low, hf]
  · have e : toldP 3 b blank = (({ verb := 3, path := (sentP b fromT).1, params := (sentP b fromT).2.1 } : Cm), (sentP b fromT).2.2 && !aloneC (sentP b fromT).1) := rfl
    rw [e, Prod.mk.injEq, Bool.and_eq_true] at h
    obtain ⟨rfl, hs, ha⟩ := h
    obtain ⟨k, kl⟩ := sentP_some hs
    generalize (sentP b fromT).1 = p at *
    generalize (sentP b fromT).2.1 = l at *
    have hbk := sentP_back k (params_back k.fine) from_up.1
    have eb : behindP { verb := 3, path := p, params := l } = fromT ++ (printD p ++ l.flatMap pmT) := by
      show sentT fromT _ = _
      unfold sentT pathT
      rw [if_pos k.right]
    refine ⟨rfl, ?_, ?_⟩
    · rw [eb]
      show (({ verb := 3, path := (sentP _ fromT).1, params := (sentP _ fromT).2.1 } : Cm), (sentP _ fromT).2.2 && !aloneC (sentP _ fromT).1) = _
      rw [hbk, ha]
      rfl
    · rw [eb, List.length_append, List.length_append]
      have := k.len
      omega
  · have e : toldP 4 b blank = (({ verb := 4, path := (sentP b toT).1, params := (sentP b toT).2.1 } : Cm), (sentP b toT).2.2 && !(sentP b toT).1.null) := rfl
    rw [e, Prod.mk.injEq, Bool.and_eq_true] at h
    obtain ⟨rfl, hs, ha⟩ := h
    obtain ⟨k, kl⟩ := sentP_some hs
    generalize (sentP b toT).1 = p at *
    generalize (sentP b toT).2.1 = l at *
    have hbk := sentP_back k (params_back k.fine) from_up.2
    have eb : behindP { verb := 4, path := p, params := l } = toT ++ (printD p ++ l.flatMap pmT) := by
      show sentT toT _ = _
      unfold sentT pathT
      rw [if_pos k.right]
    refine ⟨rfl, ?_, ?_⟩
    · rw [eb]
      show (({ verb := 4, path := (sentP _ toT).1, params := (sentP _ toT).2.1 } : Cm), (sentP _ toT).2.2 && !(sentP _ toT).1.null) = _
      rw [hbk, ha]
      rfl
    · rw [eb, List.length_append, List.length_append]
      have := k.len
      omega
  all_goals try
    (have hf : blank = false := by
      have := (Prod.mk.inj h).2
      simpa [toldP] using this
     obtain rfl := (Prod.mk.inj h).1
     exact ⟨rfl, rfl, Nat.zero_le _⟩)
  · obtain ⟨rfl, hf⟩ := Prod.mk.inj h
    exact ⟨rfl, by show (({ verb := 7, arg := b } : Cm), someP shB b) = _; exact Prod.ext rfl hf, Nat.le_refl _⟩
  · obtain ⟨rfl, hf⟩ := Prod.mk.inj h
    exact ⟨rfl, by show (({ verb := 8, arg := b } : Cm), someP shB b) = _; exact Prod.ext rfl hf, Nat.le_refl _⟩
  all_goals
    cases blank with
    | false =>
      obtain ⟨rfl, hf⟩ := Prod.mk.inj h
      exact ⟨rfl, rfl, Nat.zero_le _⟩
    | true =>
      obtain ⟨rfl, hf⟩ := Prod.mk.inj h
      have hne : b ≠ [] := fun e => by rw [e] at hf; revert hf; decide
      refine ⟨rfl, ?_, Nat.le_refl _⟩
      show toldP _ b (!decide (b = [])) = _
      rw [decide_eq_false hne]
      exact Prod.ext rfl hf
/-- a line is its word, and what stands behind -/
theorem cmd_of {w b line : List UInt8} {v : Nat} {blank : Bool} {c : Cm} (h1 : 1 ≤ v) (h2 : v ≤ 11) (hw : up w = wordP v) (ht : toldP v b blank = (c, true)) (hb : blank = false → b = []) (hl : line = w ++ (if blank = true then 32 :: b else [])) (hn : line.length ≤ 510) : cmdP line = (c, 0) := by
  have hno := up_32 h1 h2 hw
  have hc : cutW 32 line = w ∧ cutB 32 line = b ∧ cutH 32 line = blank := by
    subst hl
    cases blank with
    | true => exact cut_at hno b
    | false =>
      rw [if_neg (by decide), List.append_nil]
      obtain ⟨e1, e2, e3⟩ := cut_none hno
      exact ⟨e1, by rw [e2, hb rfl], e3⟩
  unfold cmdP
  rw [if_neg (by omega), hc.1, hc.2.1, hc.2.2, verb_of h1 h2 hw, if_neg (by omega), ht, if_pos rfl]
theorem cmd_wrong {w b line : List UInt8} {v : Nat} {blank : Bool} (h1 : 1 ≤ v) (h2 : v ≤ 11) (hw : up w = wordP v) (ht : (toldP v b blank).2 = false) (hb : blank = false → b = []) (hl : line = w ++ (if blank = true then 32 :: b else [])) (hn : line.length ≤ 510) : cmdP line = ({}, 161) := by
  have hno := up_32 h1 h2 hw
  have hc : cutW 32 line = w ∧ cutB 32 line = b ∧ cutH 32 line = blank := by
    subst hl
    cases blank with
    | true => exact cut_at hno b
    | false =>
      rw [if_neg (by decide), List.append_nil]
      obtain ⟨e1, e2, e3⟩ := cut_none hno
      exact ⟨e1, by rw [e2, hb rfl], e3⟩
  unfold cmdP
  rw [if_neg (by omega), hc.1, hc.2.1, hc.2.2, verb_of h1 h2 hw, if_neg (by omega), ht, if_neg (by decide)]
theorem cmd_some {line : List UInt8} {c : Cm} (h : cmdP line = (c, 0)) : line.length ≤ 510 ∧ ∃ v w b blank, 1 ≤ v ∧ v ≤ 11 ∧ up w = wordP v ∧ toldP v b blank = (c, true) ∧ (blank = false → b = []) ∧ line = w ++ (if blank = true then 32 :: b else []) := by
  unfold cmdP at h
  split at h
  · exact absurd (Prod.mk.inj h).2 (by decide)
  · split at h
    · exact absurd (Prod.mk.inj h).2 (by decide)
    · split at h
      · rename_i hl hv ht
        obtain ⟨h1, h2, h3⟩ := verb_some hv
        refine ⟨by omega, _, cutW 32 line, cutB 32 line, cutH 32 line, h1, h2, h3, Prod.ext (Prod.mk.inj h).1 ht, fun hh => (cut_no 32 line hh).2, ?_⟩
        cases hh : cutH 32 line with
        | true => rw [if_pos rfl]; exact cut_has 32 line hh
        | false => rw [if_neg (by decide), List.append_nil]; exact (cut_no 32 line hh).1.symm
      · exact absurd (Prod.mk.inj h).2 (by decide)
theorem cmd_bad (line : List UInt8) : (cmdP line).2 = 0 ∨ (cmdP line).1 = {} ∧ ((cmdP line).2 = 3 ∧ 510 < line.length ∨ (cmdP line).2 = 160 ∧ line.length ≤ 510 ∨ (cmdP line).2 = 161 ∧ line.length ≤ 510) := by
  unfold cmdP
  split
  · exact .inr ⟨rfl, .inl ⟨rfl, by assumption⟩⟩
  · split
    · exact .inr ⟨rfl, .inr (.inl ⟨rfl, by omega⟩)⟩
    · split
      · exact .inl rfl
      · exact .inr ⟨rfl, .inr (.inr ⟨rfl, by omega⟩)⟩
/-- a command that was read is read of its own line, in no more bytes -/
theorem cmd_back {line : List UInt8} {c : Cm} (h : cmdP line = (c, 0)) : cmdP (fullP c) = (c, 0) ∧ (fullP c).length ≤ line.length ∧ line.length ≤ 510 := by
  obtain ⟨hn, v, w, b, blank, h1, h2, hw, ht, hb, hl⟩ := cmd_some h
  obtain ⟨k1, k2, k3⟩ := told_back ht hb h1 h2
  have hwl : w.length = (wordP v).length := by rw [← hw, up_len]
  have e : fullP c = wordP v ++ (if (!decide (behindP c = [])) = true then 32 :: behindP c else []) := by
    unfold fullP
    rw [k1]
    by_cases hbe : behindP c = []
    · simp [hbe]
    · simp [hbe]
  have hlen : (fullP c).length ≤ line.length := by
    rw [e, hl, List.length_append, List.length_append, hwl]
    cases blank with
    | true =>
      rw [if_pos rfl]
      split <;> simp <;> omega
    | false =>
      have := hb rfl
      subst this
      have hbe : behindP c = [] := List.length_eq_zero_iff.1 (by simpa using k3)
      simp [hbe]
  refine ⟨cmd_of h1 h2 (word_up h1 h2).1 k2 (fun hh => ?_) e (by omega), hlen, hn⟩
  simpa using hh
theorem line_right {line : List UInt8} {c : Cm} (h : cmdP line = (c, 0)) : lineP c = fullP c ∧ rightC c = true ∧ (lineP c).length ≤ line.length ∧ cmdP (lineP c) = (c, 0) := by
  obtain ⟨h1, h2, h3⟩ := cmd_back h
  have e : lineP c = fullP c := List.take_of_length_le (by omega)
  refine ⟨e, ?_, by rw [e]; exact h2, by rw [e]; exact h1⟩
  unfold rightC saysP
  rw [e]
  exact decide_eq_true h1
theorem right_line {c : Cm} (h : rightC c = true) : cmdP (lineP c) = (c, 0) := of_decide_eq_true h
theorem right_full {c : Cm} (h : rightC c = true) : lineP c = fullP c := (line_right (right_line h)).1
/-- what is told of a right command -/
theorem right_some {c : Cm} (h : rightC c = true) : (lineP c).length ≤ 510 ∧ 1 ≤ c.verb ∧ c.verb ≤ 11 ∧ toldP c.verb (behindP c) (!decide (behindP c = [])) = (c, true) ∧ lineP c = wordP c.verb ++ (if behindP c = [] then [] else 32 :: behindP c) := by
  obtain ⟨hn, v, w, b, blank, h1, h2, hw, ht, hb, hl⟩ := cmd_some (right_line h)
  obtain ⟨k1, k2, k3⟩ := told_back ht hb h1 h2
  subst k1
  exact ⟨hn, h1, h2, k2, right_full h⟩
end Go.Proofs.YtnkepdeegpampaaGreatDoor

/-
  What the library's and the program's variables hold, as command asks it; the contracts of command.verbOf, command.Word. Conditions: texts of at most 2^62 bytes; these variables.
-/
namespace Go.Proofs.YtnkepdeegpampaaGreatDoor
open Go.RowKit Go.Shelf

/-- the variables that are read -/
structure Env (w : World) : Prop where
  err : ErrAt w ∧ ErrG < w.heap.size
  max : ∃ m : Int, w.cell? ⟨1, 0, none⟩ = some (.int .i64 m)
  words : ∀ i, i < 12 → w.cell? ⟨0, i, none⟩ = some (.string (bs (wordP i)))
theorem Env.later {w w' : World} (h : Env w) (hb : Below w.heap.size w w') : Env w' := by
  refine ⟨ErrAt.later h.err hb, ?_, fun i hi => ?_⟩
  · obtain ⟨m, hm⟩ := h.max
    exact ⟨m, (hb.cell (p := ⟨1, 0, none⟩) (World.block_lt_of_cell? _ _ hm)).trans hm⟩
  · exact (hb.cell (p := ⟨0, i, none⟩) (World.block_lt_of_cell? _ _ (h.words i hi))).trans (h.words i hi)
theorem verbF_step (u : List UInt8) (v : Nat) (h : v ≤ 11) : verbF u (12 - v) v = if wordP v = u then v else verbF u (12 - (v + 1)) (v + 1) := by
  obtain ⟨f, hf⟩ : ∃ f, 12 - v = f + 1 := ⟨11 - v, by omega⟩
  rw [hf, show 12 - (v + 1) = f by omega]
  rfl
set_option maxRecDepth 100000 in
set_option maxHeartbeats 1000000 in
theorem verbOf_any (l : List UInt8) (hl : l.length ≤ 4611686018427387904) (w : World) (he : Env w) : Calls Tryz.prog 25 #[.string (bs l)] w fun e w' => e = .returned (.int .u8 (verbP l : Nat)) ∧ Below w.heap.size w w' := by
  have HE := Lib.hid (ceach_any great_any ent_great l hl w)
  have HU : Hid (l.map upc = up l) := rfl
  rw [HU.out] at HE
  have HEN := Lib.hid he
  have HV : Hid (verbF (up l) (12 - 1) 1 = verbP l) := rfl
  generalize up l = u at *
  generalize verbP l = V at *
  clear he hl HU
  generalize bs l = S at *
  go_enter Tryz.func25, Tryz.ntmps25
  go_upto_region 2 with (go_at_call 46; refine HE.out.mono ?_; rintro e w1 ⟨rfl, hb⟩; have HB := Lib.hid hb; clear hb HE)
  have HW := Lib.hid ((HEN.out.later HB.out).words)
  go_wp2
  go_loopw [4] (fun i wr => ∃ v : Nat, 1 ≤ v ∧ v ≤ 12 ∧ i = .int .u8 v ∧ Hid (verbF u (12 - v) v = V) ∧ wr = w1) (fun i _ => 12 - (intOf i).toNat)
  case atStart => exact ⟨1, by omega, by omega, rfl, HV.out, rfl⟩
  case round =>
    obtain ⟨v, h1, h2, rfl, HA, rfl⟩ := hrel
    have hv0 : (0 : Int) ≤ (v : Int) := by omega
    by_cases hlt : v ≤ 11
    · have hvz : (v : Int) ≤ 11 := by omega
      have hv12 : v < 12 := by omega
      have c0 := HW.out v (by omega)
      have hx := toL_eq (wordP v) u
      have HS : Hid (verbF u (12 - v) v = if wordP v = u then v else verbF u (12 - (v + 1)) (v + 1)) := verbF_step u v hlt
      by_cases huv : wordP v = u
      · rw [decide_eq_true huv] at hx
        have HO : Hid (v = V) := by
          have h3 := HS.out
          rw [if_pos huv, HA.out] at h3
          exact h3.symm
        clear HS HA huv
        generalize bs (wordP v) = t1 at *
        generalize bs u = t2 at *
        go_wp2
        go_ret
        exact ⟨by rw [HO.out]; rfl, HB.out⟩
      · rw [decide_eq_false huv] at hx
        have HO : Hid (verbF u (12 - (v + 1)) (v + 1) = V) := by
          have h3 := HS.out
          rw [if_neg huv, HA.out] at h3
          exact h3.symm
        clear HS HA huv
        generalize bs (wordP v) = t1 at *
        generalize bs u = t2 at *
        go_wp2
        go_roundw
        case rel => exact ⟨v + 1, by omega, by omega, by go_num, HO.out, trivial⟩
        case measure => simp [intOf]; omega
    · have hve : v = 12 := by omega
      subst hve
      have HO : Hid (0 = V) := HA.out
      clear HA
      go_wp2
      go_ret
      exact ⟨by rw [← HO.out]; rfl, HB.out⟩
theorem wordP_much {v : Nat} (h : 12 ≤ v) : wordP v = [] := by
  unfold wordP
  rw [List.getD_eq_getElem?_getD, List.getElem?_eq_none (by show 12 ≤ v; exact h)]
  rfl
set_option maxHeartbeats 1000000 in
theorem word_any (v : Nat) (hv : v ≤ 255) (w : World) (he : Env w) : Calls Tryz.prog 14 #[.int .u8 (v : Int)] w fun e w' => e = .returned (.string (bs (wordP v))) ∧ w' = w := by
  have hv0 : (0 : Int) ≤ (v : Int) := by omega
  have hv1 : (v : Int) ≤ 255 := by omega
  by_cases h : v < 12
  · have hz : (v : Int) < 12 := by omega
    have hz2 : ¬ (12 : Int) ≤ (v : Int) := by omega
    have c0 := he.words v h
    clear he
    generalize bs (wordP v) = t at *
    go_enter Tryz.func14, Tryz.ntmps14
    go_wp2
    go_ret
    exact ⟨rfl, rfl⟩
  · have hz : (12 : Int) ≤ (v : Int) := by omega
    rw [wordP_much (by omega)]
    clear he
    go_enter Tryz.func14, Tryz.ntmps14
    go_wp2
    go_ret
    exact ⟨rfl, rfl⟩
end Go.Proofs.YtnkepdeegpampaaGreatDoor

/-
  Parameters in memory, and the contract of command.params. Conditions: the text is of at most 2^20 bytes; the variables that are read.
-/
namespace Go.Proofs.YtnkepdeegpampaaGreatDoor
open Go.RowKit Go.Shelf

def pmCells (p : Pm) : List Value := [.string (bs p.key), .string (bs p.value), .bool p.has]
/-- parameters in a row of memory -/
def PmsAt (w : World) (a : Option Addr) (l : List Pm) : Prop := RowAt w a (l.flatMap pmCells)
theorem pmFlat_len (l : List Pm) : (l.flatMap pmCells).length = l.length * 3 := by
  induction l with
  | nil => rfl
  | cons p l ih => rw [List.flatMap_cons, List.length_append, ih, List.length_cons]; show 3 + _ = _; omega
theorem pmFlat_at (l : List Pm) (k : Nat) (hk : k < l.length) : ∀ i, i < 3 → (l.flatMap pmCells)[k * 3 + i]? = (pmCells l[k])[i]? := by
  induction l generalizing k with
  | nil => simp at hk
  | cons p l ih =>
    intro i hi
    rw [List.flatMap_cons]
    cases k with
    | zero => rw [Nat.zero_mul, Nat.zero_add, List.getElem?_append_left (by show i < 3; exact hi)]; rfl
    | succ k =>
      rw [List.getElem?_append_right (by show 3 ≤ _; omega)]
      have e : (k + 1) * 3 + i - (pmCells p).length = k * 3 + i := by show (k + 1) * 3 + i - 3 = _; omega
      rw [e, List.getElem_cons_succ]
      exact ih k (by simpa using hk) i hi
theorem PmsAt.at_ {w : World} {a : Option Addr} {l : List Pm} (h : PmsAt w a l) {k : Nat} (hk : k < l.length) : ∃ b off, a = some ⟨b, off, none⟩ ∧ w.cell? ⟨b, off + k * 3, none⟩ = some (.string (bs l[k].key)) ∧ w.cell? ⟨b, off + k * 3 + 1, none⟩ = some (.string (bs l[k].value)) ∧ w.cell? ⟨b, off + k * 3 + 2, none⟩ = some (.bool l[k].has) := by
  obtain ⟨b, off, h1, _, h3⟩ := h.row (by rw [pmFlat_len]; omega)
  have hc : ∀ i, i < 3 → w.cell? ⟨b, off + (k * 3 + i), none⟩ = (pmCells l[k])[i]? := fun i hi => by
    have hlt : k * 3 + i < (l.flatMap pmCells).length := by rw [pmFlat_len]; omega
    rw [h3 (k * 3 + i) hlt, ← pmFlat_at l k hk i hi, List.getElem?_eq_getElem hlt]
  refine ⟨b, off, h1, ?_, ?_, ?_⟩
  · have := hc 0 (by omega); exact this
  · have := hc 1 (by omega); rw [← Nat.add_assoc] at this; exact this
  · have := hc 2 (by omega); rw [← Nat.add_assoc] at this; exact this
/-- a row that lies from a block on -/
def RowFrom (B : Nat) (w : World) (a : Option Addr) (l : List Value) : Prop := RowAt w a l ∧ (0 < l.length → ∀ x, a = some x → B ≤ x.block)
theorem RowFrom.below {B : Nat} {w w' : World} {a : Option Addr} {l : List Value} (h : RowFrom B w a l) (hb : Below w.heap.size w w') : RowFrom B w' a l := ⟨RowAt.below h.1 hb, h.2⟩
theorem RowFrom.mono {B B' : Nat} {w : World} {a : Option Addr} {l : List Value} (h : RowFrom B w a l) (hb : B' ≤ B) : RowFrom B' w a l := ⟨h.1, fun h0 x hx => Nat.le_trans hb (h.2 h0 x hx)⟩
theorem RowFrom.set_ {B g : Nat} {w : World} {a : Option Addr} {l : List Value} (h : RowFrom B w a l) (hg : g < B) (i : Nat) (v : Value) : RowFrom B (w.setCell ⟨g, i, none⟩ v) a l :=
  ⟨RowAt.only h.1 ((Only.refl g w).set_ i v) (fun h0 x hx => by have := h.2 h0 x hx; omega), h.2⟩
theorem RowFrom.none_ (B : Nat) (w : World) (a : Option Addr) : RowFrom B w a [] := ⟨⟨by simp, fun h => by simp at h⟩, fun h => by simp at h⟩
theorem RowFrom.own {B n c sz : Nat} {e : TypeId} {W : World} {a : Option Addr} {l : List Value} (h : W.ownsRow B e sz (.slice a n c) n l) (hm : l.length ≤ maxLen) : RowFrom B W a l := by
  refine ⟨row_of_own h hm, fun _ x hx => ?_⟩
  subst hx
  rcases h.2 with ⟨e1, _⟩ | ⟨g, cap, cur, e1, hg, _⟩
  · cases e1
  · injection e1 with e1
    injection e1 with e1
    subst e1
    exact hg
theorem infoPm : (Tryz.prog.info? 45).map (fun i => (i.zero, i.size, i.bytes)) = some (some (.agg #[.string ByteArray.empty, .string ByteArray.empty, .bool false]), 3, 40) := by kernel_rfl
/-- parameters in a row of one's own -/
def OwnP (W : World) (B : Nat) (a : Option Addr) (c : Nat) (l : List Pm) : Prop := W.ownsRow B 45 3 (.slice a l.length c) l.length (l.flatMap pmCells)
theorem OwnP.at_ {W : World} {B : Nat} {a : Option Addr} {c : Nat} {l : List Pm} (h : OwnP W B a c l) (hm : l.length ≤ 100000) : PmsAt W a l := row_of_own h (by rw [pmFlat_len]; unfold maxLen; omega)
set_option maxHeartbeats 1000000 in
theorem app_pm {ops : Array Oper} {rest : List Oper} {o : Oper} {act : Act} {Q : Exit → Act → World → Prop} {W : World} (hgd : o.guard = none) (s x : Operand)
    (ho : o.op = .call { callee := .builtin .append, args := #[s, x], argTypes := #[27, 27] })
    (B : Nat) (a : Option Addr) (c : Nat) (l : List Pm) (t : Pm) (hs : act.eval s = .slice a l.length c) (hv : OwnP W B a c l) (hB : B ≤ W.heap.size)
    (g : Nat) (hx : act.eval x = .slice (some ⟨g, 0, none⟩) 1 1) (hb : Blk W g 45 (pmCells t).toArray) (hle : l.length ≤ 100000)
    (h : ∀ a' c' W', OwnP W' B a' c' (l ++ [t]) → Below B W W' → wpList Tryz.prog ops Q rest (act.put o.dst (.slice a' (l ++ [t]).length c')) W') : wpList Tryz.prog ops Q (o :: rest) act W := by
  obtain ⟨i0, hi, hz0, hz1, hz2⟩ := info_parts infoPm
  refine wpList_append_own_at W hgd s x 27 ho B 45 i0 (.agg #[.string ByteArray.empty, .string ByteArray.empty, .bool false]) 3 40 Tryz.underlying27 hi hz0 hz1 hz2 rfl (by decide) (.slice a l.length c) l.length _ hs hv ⟨g, 0, none⟩ 1 1 (pmCells t) hx rfl ?_ ?_ (by unfold maxLen; omega) (by omega) hB ?_
  · intro j u hj
    rw [Addr.add_lit, Nat.zero_add, hb.cell j]
    simpa using hj
  · simp [pmCells, Value.oneCell']
  · intro v' W' h2 h3 _ h5
    have hle : (l ++ [t]).length = l.length + 1 := by rw [List.length_append]; rfl
    have hlow : Below B W W' := (Below.refl B W).grown h3 hB (fun i hi => (hv.lt i hi).1)
    rcases h2.2 with ⟨_, h0⟩ | ⟨g', cap, cur, e, _⟩
    · omega
    · subst e
      rw [← hle]
      refine h _ cap W' ?_ hlow
      unfold OwnP
      rw [hle, List.flatMap_append, List.flatMap_cons, List.flatMap_nil, List.append_nil]
      exact h2
/-- a text that is cut at a byte: the library's way, and ours -/
theorem index_cut (c : UInt8) : ∀ s : List UInt8, Lib.index s [c] = if cutH c s = true then ((cutW c s).length : Int) else -1
  | [] => rfl
  | x :: s => by
    have ih := index_cut c s
    unfold Lib.index
    by_cases hx : x = c
    · subst hx
      simp [cutH, cutW]
    · have hb : (x != c) = true := by simpa using hx
      have hc : cutH c (x :: s) = cutH c s := by
        unfold cutH
        rw [List.contains_cons]
        have : (c == x) = false := by simpa using fun e => hx e.symm
        rw [this, Bool.false_or]
      have hw : cutW c (x :: s) = x :: cutW c s := by unfold cutW; rw [List.takeWhile_cons, if_pos hb]
      have hp : ([c] : List UInt8).isPrefixOf (x :: s) = false := by
        have : (c == x) = false := by simpa using fun e => hx e.symm
        simp [List.isPrefixOf, this]
      rw [hc, hw, hp, if_neg (by decide), ih]
      cases hh : cutH c s with
      | true =>
        have : ((cutW c s).length : Int) ≠ -1 := by omega
        simp [this]
      | false => simp
theorem cut_drop (c : UInt8) (s : List UInt8) (hh : cutH c s = true) : s.take (cutW c s).length = cutW c s ∧ s.drop ((cutW c s).length + 1) = cutB c s ∧ (cutW c s).length + 1 + (cutB c s).length = s.length := by
  have h := cut_has c s hh
  generalize cutW c s = a at *
  generalize cutB c s = b at *
  clear hh
  subst h
  refine ⟨List.take_left, ?_, by simp; omega⟩
  rw [← List.drop_drop, List.drop_left]
  rfl
theorem cut_lib (c : UInt8) (s : List UInt8) : Lib.cut s [c] = (cutW c s, cutB c s, cutH c s) := by
  unfold Lib.cut
  rw [index_cut]
  cases hh : cutH c s with
  | true =>
    obtain ⟨h1, h2, _⟩ := cut_drop c s hh
    rw [if_pos rfl, if_pos (by omega)]
    have e2 : s.drop (((cutW c s).length : Int).toNat + [c].length) = cutB c s := by rw [Int.toNat_natCast]; exact h2
    rw [e2, Int.toNat_natCast, h1]
  | false =>
    obtain ⟨h1, h2⟩ := cut_no c s hh
    rw [h1, h2]
    rfl
theorem split_lib (c : UInt8) : ∀ (n : Nat) (s : List UInt8), s.length ≤ n → Lib.splitK [c] 0 (s.count c) s = splitC c s := by
  intro n
  induction n with
  | zero =>
    intro s h
    obtain rfl := List.length_eq_zero_iff.1 (Nat.le_zero.1 h)
    rfl
  | succ n ih =>
    intro s h
    cases hh : cutH c s with
    | true =>
      have e := cut_has c s hh
      have hn := cutW_not c s
      have hi := index_cut c s
      rw [if_pos hh] at hi
      have hl := congrArg List.length e
      rw [List.length_append, List.length_cons] at hl
      have h0 : (cutW c s).count c = 0 := List.count_eq_zero.2 fun hm => hn c hm rfl
      have hc : s.count c = (cutB c s).count c + 1 := by
        conv => lhs; rw [e]
        rw [List.count_append, h0, List.count_cons_self]
        omega
      rw [hc, Lib.splitK, hi, if_neg (by simp)]
      obtain ⟨d1, d2, _⟩ := cut_drop c s hh
      have e1 : s.take (((cutW c s).length : Int).toNat + 0) = cutW c s := by rw [Int.toNat_natCast, Nat.add_zero]; exact d1
      have e2 : s.drop (((cutW c s).length : Int).toNat + [c].length) = cutB c s := by rw [Int.toNat_natCast]; exact d2
      rw [e1, e2, ih _ (by omega)]
      conv => rhs; rw [e]
      rw [split_at hn]
    | false =>
      have hi := index_cut c s
      rw [if_neg (by rw [hh]; decide)] at hi
      have hno : ∀ x ∈ s, x ≠ c := fun x hx he => by
        unfold cutH at hh
        rw [List.contains_eq_mem, decide_eq_false_iff_not] at hh
        exact hh (he ▸ hx)
      rw [split_none hno]
      cases s.count c with
      | zero => rfl
      | succ k => rw [Lib.splitK, hi]; rfl
end Go.Proofs.YtnkepdeegpampaaGreatDoor

/-
  The contracts of strings.Split at one byte, strings.Clone, command.params. Conditions: texts of at most 2^20 bytes; the variables that are read.
-/
namespace Go.Proofs.YtnkepdeegpampaaGreatDoor
open Go.RowKit Go.Shelf

theorem bs_data (s : ByteArray) : bs s.data.toList = s := rfl
theorem split_len (c : UInt8) (s : List UInt8) : (splitC c s).length = s.count c + 1 := by
  induction s with
  | nil => rfl
  | cons x s ih =>
    rw [splitC]
    cases hs : splitC c s with
    | nil => exact absurd hs (split_ne c s)
    | cons p l =>
      rw [hs] at ih
      by_cases hx : x = c
      · subst hx
        rw [if_pos rfl, List.count_cons_self, List.length_cons, ih]
      · rw [if_neg hx, List.count_cons_of_ne (by simpa using hx), ← ih]
        rfl
theorem split_any (c : UInt8) (l : List UInt8) (hl : l.length ≤ 1048576) (w : World) (he : Env w) : Calls Tryz.prog 96 #[.string (bs l), .string ⟨#[c]⟩] w fun e w' => e = .returned (.slice (some ⟨w.heap.size, 0, none⟩) (splitC c l).length (splitC c l).length) ∧ TextsAt w' (some ⟨w.heap.size, 0, none⟩) (splitC c l) ∧ Below w.heap.size w w' := by
  obtain ⟨m, hm⟩ := he.max
  refine (Tryz.strings_Split (bs l) ⟨#[c]⟩ m w (by rw [bs_size]; omega) hm (Nat.le_refl _)).mono ?_
  rintro e w' ⟨rfl, rfl⟩
  have hc : Lib.countB (bs l) ⟨#[c]⟩ = l.count c := Lib.count_one c l
  have hp : Lib.splitB ⟨#[c]⟩ 0 (Lib.countB (bs l) ⟨#[c]⟩) (bs l) = (splitC c l).map bs := by
    have h1 := Lib.splitB_data ⟨#[c]⟩ 0 (Lib.countB (bs l) ⟨#[c]⟩) (bs l)
    have h2 : Lib.splitK [c] 0 (Lib.countB (bs l) ⟨#[c]⟩) l = splitC c l := by rw [hc]; exact split_lib c _ l (Nat.le_refl _)
    have h3 := h1.trans h2
    rw [← h3, List.map_map]
    exact (List.map_id _).symm
  rw [hp, hc, split_len]
  refine ⟨rfl, ?_, (Below.refl _ w).alloc (Nat.le_refl _) _⟩
  have hcnt : l.count c ≤ l.length := List.count_le_length
  refine ⟨by rw [List.length_map, split_len]; unfold maxLen; omega, fun _ => ⟨w.heap.size, 0, rfl, by rw [World.size_alloc]; omega, fun j hj => ?_⟩⟩
  rw [Nat.zero_add, (Blk.new w 9 _).cell j]
  rw [List.getElem?_toArray, List.map_map]
  exact List.getElem?_eq_getElem hj
theorem cut_any (c : UInt8) (l : List UInt8) (hl : l.length ≤ 1048576) (w : World) (he : Env w) : Calls Tryz.prog 24 #[.string (bs l), .string ⟨#[c]⟩] w fun e w' => e = .returned (.tuple #[.string (bs (cutW c l)), .string (bs (cutB c l)), .bool (cutH c l)]) ∧ Below w.heap.size w w' := by
  obtain ⟨m, hm⟩ := he.max
  refine (Tryz.strings_Cut (bs l) ⟨#[c]⟩ m w (by rw [bs_size]; omega) hm).mono ?_
  rintro e w' ⟨rfl, n, rfl⟩
  have h := cut_lib c l
  have e1 : Lib.cut (bs l).data.toList (⟨#[c]⟩ : ByteArray).data.toList = (cutW c l, cutB c l, cutH c l) := h
  rw [e1]
  exact ⟨rfl, ⟨rfl, rfl, rfl, Nat.le_refl _, fun _ _ => rfl⟩⟩
theorem cut_lens (c : UInt8) (s : List UInt8) : (cutW c s).length ≤ s.length ∧ (cutB c s).length ≤ s.length := by
  unfold cutW cutB
  refine ⟨(List.takeWhile_sublist _).length_le, ?_⟩
  rw [List.length_drop]
  have := (List.dropWhile_sublist (l := s) (· != c)).length_le
  omega
theorem tail_texts (g n c : Nat) (h : n + 1 ≤ c) : ∃ a' : Option Addr, (0 < n → a' = some ⟨g, 1, none⟩) ∧ ∀ W, (Instr.slice 22 (.slice (some ⟨g, 0, none⟩) (n + 1) c) (some (.int .i64 1)) none none).run Tryz.prog W = .ok (.slice a' n (c - 1)) W := by
  by_cases h1 : c = 1
  · subst h1
    refine ⟨some ⟨g, 0, none⟩, fun h => by omega, fun W => ?_⟩
    rw [run_slice_l W 22 _ _ _ (by kernel_rfl) .i64 1 (by omega) (by omega)]
    go_simp
    omega
  · refine ⟨some ⟨g, 1, none⟩, fun _ => rfl, fun W => ?_⟩
    rw [run_slice_l W 22 _ _ _ (by kernel_rfl) .i64 1 (by omega) (by omega)]
    go_simp
theorem tail_at {w : World} {g : Nat} {p : List UInt8} {l : List (List UInt8)} (h : TextsAt w (some ⟨g, 0, none⟩) (p :: l)) (a' : Option Addr) (ha : 0 < l.length → a' = some ⟨g, 1, none⟩) : TextsAt w a' l := by
  have hlen := h.len
  refine ⟨by rw [List.length_map]; simp at hlen; omega, fun h0 => ?_⟩
  rw [List.length_map] at h0
  obtain ⟨b, off, e1, e2, e3⟩ := h.row (by simp)
  injection e1 with e1
  injection e1 with e1 e4
  subst e1 e4
  refine ⟨g, 1, ha h0, e2, fun j hj => ?_⟩
  have := e3 (j + 1) (by simpa using hj)
  rw [show 0 + (j + 1) = 1 + j by omega] at this
  rw [this]
  rfl
def ParamsOut (w : World) (T : List Pm × Bool) (e : Ending) (w' : World) : Prop := ∃ a c, e = .returned (.tuple #[.slice a T.1.length c, .bool T.2]) ∧ RowFrom w.heap.size w' a (T.1.flatMap pmCells) ∧ T.1.length ≤ c ∧ Below w.heap.size w w'
theorem pms_none (w : World) (a : Option Addr) : PmsAt w a [] := ⟨by simp, fun h => by simp at h⟩
theorem own_room {W : World} {B z n c : Nat} {e : TypeId} {a : Option Addr} {xs : List Value} (h : W.ownsRow B e z (.slice a n c) n xs) : n ≤ c := by
  rcases h.2 with ⟨e1, h0⟩ | ⟨g, cap, cur, e1, _, _, h3, _⟩
  · omega
  · injection e1 with _ _ e2
    omega
set_option maxRecDepth 100000 in
set_option maxHeartbeats 2000000 in
theorem params_any (s : List UInt8) (hs : s.length ≤ 10000) (w : World) (he : Env w) : Calls Tryz.prog 73 #[.string (bs s)] w (ParamsOut w (paramsP s)) := by
  have HS := Lib.hid (split_any 32 s (by omega) w he)
  obtain ⟨hj1, hj2⟩ := join_split 32 s
  have hlen := split_len 32 s
  have hcnt : s.count 32 ≤ s.length := List.count_le_length
  have hel : ∀ p ∈ splitC 32 s, p.length ≤ 10000 := by
    intro p hp
    have key : ∀ (c : UInt8) (s p : List UInt8), p ∈ splitC c s → p.length ≤ s.length := by
      intro c s
      induction s with
      | nil => intro p hp; simp [splitC] at hp; rw [hp]; exact Nat.le_refl _
      | cons x s ih =>
        intro p hp
        rw [splitC] at hp
        cases hs : splitC c s with
        | nil => exact absurd hs (split_ne c s)
        | cons q l =>
          rw [hs] at hp ih
          split at hp
          · rcases List.mem_cons.1 hp with rfl | hp
            · simp
            · have := ih p hp; simp; omega
          · rcases List.mem_cons.1 hp with rfl | hp
            · have := ih q (by simp); simpa using this
            · have := ih p (by simp [show p ∈ l from hp]); simp; omega
    have := key 32 s p hp
    omega
  have HEN := Lib.hid he
  unfold paramsP
  cases hsp : splitC 32 s with
  | nil => exact absurd hsp (split_ne 32 s)
  | cons p l =>
    rw [hsp] at HS hlen hel
    have hll : l.length ≤ 10000 := by simp at hlen; omega
    have HLB := Lib.hid (fun q (hq : q ∈ l) => hel q (by simp [hq]))
    clear hj1 hj2 hlen hel hcnt hs he hsp
    generalize bs s = S at *
    have hn1 : (p :: l).length = l.length + 1 := rfl
    rw [hn1] at HS
    have HQN : Hid (¬ (p = [] ∧ l.all pmOk = true) → ∀ w', Below w.heap.size w w' → ParamsOut w (if (p :: l).headD [] = [] ∧ (p :: l).tail.all pmOk = true then ((p :: l).tail.map pmOf, true) else ([], false)) (.returned (.tuple #[.slice none 0 0, .bool false])) w') := fun h w' hb => by
      have hi : ¬ ((p :: l).headD [] = [] ∧ (p :: l).tail.all pmOk = true) := h
      rw [if_neg hi]
      exact ⟨none, 0, rfl, RowFrom.none_ _ _ _, Nat.le_refl _, hb⟩
    have HQY : Hid (p = [] ∧ l.all pmOk = true → ∀ a c w', RowFrom w.heap.size w' a ((l.map pmOf).flatMap pmCells) → l.length ≤ c → Below w.heap.size w w' → ParamsOut w (if (p :: l).headD [] = [] ∧ (p :: l).tail.all pmOk = true then ((p :: l).tail.map pmOf, true) else ([], false)) (.returned (.tuple #[.slice a l.length c, .bool true])) w') := fun h a c w' h1 h2 hb => by
      have hi : (p :: l).headD [] = [] ∧ (p :: l).tail.all pmOk = true := h
      rw [if_pos hi]
      refine ⟨a, c, ?_, h1, by rw [List.tail_cons, List.length_map]; exact h2, hb⟩
      rw [List.tail_cons, List.length_map]
    generalize ParamsOut w (if (p :: l).headD [] = [] ∧ (p :: l).tail.all pmOk = true then ((p :: l).tail.map pmOf, true) else ([], false)) = Q at *
    obtain ⟨B, hB⟩ : ∃ B, B = w.heap.size := ⟨_, rfl⟩
    rw [← hB] at HS HQN HQY
    have HBB := Lib.hid hB
    clear hB
    obtain ⟨n, hn⟩ : ∃ n, n = l.length := ⟨_, rfl⟩
    rw [← hn] at hll HQY HS
    have HN := Lib.hid hn
    clear hn hn1
    have hp0 : (bs p).toList.isEmpty = decide (p = []) := by rw [bs_toL]; cases p <;> rfl
    by_cases hp : p = []
    · rw [decide_eq_true hp] at hp0
      obtain ⟨a1, ha1, hsl⟩ := tail_texts B n (n + 1) (Nat.le_refl _)
      have HA1 := Lib.hid ha1
      have e1 : n + 1 - 1 = n := by omega
      rw [e1] at hsl
      clear e1 ha1
      have hn0 : (n : Int) + 1 ≤ 10001 := by omega
      go_enter Tryz.func73, Tryz.ntmps73
      go_upto_region 2 with (go_at_call 96; refine HS.out.mono ?_; rintro e w1 ⟨rfl, h1, h2⟩; have HT := Lib.hid h1; have HB1 := Lib.hid h2; clear h1 h2 HS)
      obtain ⟨b, o, hbo, c0⟩ := TextsAt.at_ HT.out (k := 0) (by simp)
      injection hbo with hbo
      injection hbo with hb1 hb2
      subst hb1 hb2
      simp only [List.getElem_cons_zero, Nat.zero_add] at c0
      have HTT : Hid (∀ W, Below w1.heap.size w1 W → TextsAt W a1 l) := fun W hW => RowAt.below (tail_at HT.out a1 (fun h => HA1.out (by rw [HN.out]; exact h))) hW
      have HEN1 := Lib.hid (HEN.out.later (by rw [HBB.out] at HB1; exact HB1.out))
      have HB1s : Hid (B ≤ w1.heap.size) := by have := HB1.out.size; rw [HBB.out]; exact this
      have HRB : Hid (∀ W, Below w1.heap.size w1 W → Below B w W) := fun W hW => HB1.out.trans (hW.mono (by have := HB1s.out; exact this))
      have HCU := Lib.hid (fun q (hq : q.length ≤ 1048576) W (hW : Env W) => cut_any 61 q hq W hW)
      generalize bs p = sp at *
      go_wp2
      go_loopw [5, 20] (fun v i wr => ∃ (k : Nat) (L : List Pm) (a : Option Addr) (c : Nat), k ≤ n ∧ i = .int .i64 (k : Int) ∧ v = .slice a L.length c ∧ Hid (L = (l.take k).map pmOf) ∧ Hid ((l.take k).all pmOk = true) ∧ Hid (OwnP wr w1.heap.size a c L) ∧ Hid (Below w1.heap.size w1 wr)) (fun _ i _ => n - (intOf i).toNat)
      case atStart => exact ⟨0, [], none, 0, Nat.zero_le _, rfl, rfl, rfl, rfl, World.ownsRow_nil _ _ _ _, Below.refl _ _⟩
      case round =>
        as_aux_lemma =>
          obtain ⟨k, L, a, c, hk, rfl, rfl, HL, HAL, HOW, HBW⟩ := hrel
          have hk0 : (0 : Int) ≤ (k : Int) := by omega
          clear c0 hp0 hsl
          by_cases hlt : k < n
          · have hkl : k < l.length := by rw [← HN.out]; exact hlt
            have hkz : (k : Int) < (n : Int) := by omega
            obtain ⟨b, o, hbo, c0⟩ := TextsAt.at_ (HTT.out wr HBW.out) hkl
            subst hbo
            have HPL := Lib.hid (HLB.out l[k] (List.getElem_mem hkl))
            have HEW := Lib.hid (HEN1.out.later HBW.out)
            have HCK := Lib.hid (HCU.out l[k] (Nat.le_trans HPL.out (by decide)) wr HEW.out)
            have HNO : Hid (pmOk l[k] = false → ∀ w', Below w1.heap.size w1 w' → Q (.returned (.tuple #[.slice none 0 0, .bool false])) w') := fun h w' hb => HQN.out (fun hh => by
              have := List.all_eq_true.1 hh.2 l[k] (List.getElem_mem hkl)
              rw [h] at this
              cases this) w' (HRB.out w' hb)
            have HYE : Hid (pmOk l[k] = true → (l.take (k + 1)).all pmOk = true ∧ L ++ [pmOf l[k]] = (l.take (k + 1)).map pmOf) := fun h => by
              rw [List.take_succ_eq_append_getElem hkl, List.all_append, List.map_append, HAL.out, HL.out]
              simp [h]
            have HOK : Hid (pmOk l[k] = (keyP (cutW 61 l[k]) && (!cutH 61 l[k] || someP valB (cutB 61 l[k])))) := rfl
            have HOF : Hid (pmOf l[k] = ⟨up (cutW 61 l[k]), cutB 61 l[k], cutH 61 l[k]⟩) := rfl
            have HLL : Hid (L.length ≤ 100000) := by
              show _ ≤ _
              rw [HL.out, List.length_map, List.length_take]
              omega
            obtain ⟨hcl1, hcl2⟩ := cut_lens 61 l[k]
            have HK1 := Lib.hid (Nat.le_trans hcl1 HPL.out)
            have HK2 := Lib.hid (Nat.le_trans hcl2 HPL.out)
            clear hcl1 hcl2 HAL HL
            generalize l[k] = q at *
            clear hkl
            generalize cutW 61 q = qw at *
            generalize cutB 61 q = qb at *
            generalize cutH 61 q = qh at *
            have HKY := Lib.hid (fun W => isKey_any qw (Nat.le_trans HK1.out (by decide)) W)
            have HVL := Lib.hid (fun W => some_any isOfValue_any ent_value qb (Nat.le_trans HK2.out (by decide)) W)
            have HEA := Lib.hid (fun W => ceach_any great_any ent_great qw (Nat.le_trans HK1.out (by decide)) W)
            have HUP : Hid (qw.map upc = up qw) := rfl
            rw [HUP.out] at HEA
            have HCL := Lib.hid (fun W => clone_any qb (Nat.le_trans HK2.out (by decide)) W)
            have hno : pmOk q = false → keyP qw = false ∨ (keyP qw = true ∧ qh = true ∧ someP valB qb = false) := fun h => by
              rw [HOK.out] at h
              revert h
              cases keyP qw <;> cases qh <;> cases someP valB qb <;> simp
            have hye : pmOk q = true → keyP qw = true ∧ (qh = false ∨ (qh = true ∧ someP valB qb = true)) := fun h => by
              rw [HOK.out] at h
              revert h
              cases keyP qw <;> cases qh <;> cases someP valB qb <;> simp
            generalize bs q = sq at *
            cases hq : pmOk q with
            | false =>
              have HO := Lib.hid (HNO.out hq)
              have h3 := hno hq
              clear hno hye hq HNO HYE HOK HOF HEA HCL HUP
              rcases h3 with h3 | ⟨h3, rfl, h4⟩
              · rw [h3] at HKY
                generalize bs qw = sw at *
                generalize bs qb = sb at *
                go_wp2_with (first | (go_at_call 24; refine HCK.out.mono ?_; rintro e w2 ⟨rfl, hb⟩; have HB2 := Lib.hid (HBW.out.trans (hb.mono HBW.out.size)); clear hb) | (go_at_call 97; refine (HKY.out _).mono ?_; rintro e w3 ⟨rfl, rfl⟩))
                all_goals exact HO.out _ HB2.out
              · rw [h3] at HKY
                rw [h4] at HVL
                generalize bs qw = sw at *
                generalize bs qb = sb at *
                go_wp2_with (first | (go_at_call 24; refine HCK.out.mono ?_; rintro e w2 ⟨rfl, hb⟩; have HB2 := Lib.hid (HBW.out.trans (hb.mono HBW.out.size)); clear hb) | (go_at_call 97; refine (HKY.out _).mono ?_; rintro e w3 ⟨rfl, rfl⟩) | (go_at_call 54; refine (HVL.out _).mono ?_; rintro e w3 ⟨rfl, rfl⟩))
                all_goals exact HO.out _ HB2.out
            | true =>
              obtain ⟨hy1, hy2⟩ := HYE.out hq
              have HY1 := Lib.hid hy1
              have HY2 := Lib.hid hy2
              rw [HOF.out] at HY2
              obtain ⟨h3, h4⟩ := hye hq
              clear hno hye hq HNO HYE HOK HOF hy1 hy2 HUP
              rw [h3] at HKY
              obtain ⟨y, hy⟩ : ∃ y, y = up qw := ⟨_, rfl⟩
              rw [← hy] at HEA HY2
              clear hy
              have HPC : Hid ((pmCells ⟨y, qb, qh⟩).toArray = #[.string (bs y), .string (bs qb), .bool qh]) := rfl
              generalize bs qw = sw at *
              have hcases : ∀ (P : Prop), ((qh = false → P) ∧ (qh = true ∧ someP valB qb = true → P)) → P := fun P h => h4.elim h.1 h.2
              refine hcases _ ⟨fun h5 => ?_, fun h5 => ?_⟩
              · subst h5
                go_wp2_with (first | (go_at_call 24; refine HCK.out.mono ?_; rintro e w2 ⟨rfl, hb⟩; have HB2 := Lib.hid (HBW.out.trans (hb.mono HBW.out.size)); have HO2 := Lib.hid (ownsRow_kept HOW.out hb); clear hb HCK) | (go_at_call 97; refine (HKY.out _).mono ?_; rintro e w3 ⟨rfl, rfl⟩) | (go_at_call 46; refine (HEA.out _).mono ?_; rintro e w4 ⟨rfl, hb⟩; have HB4 := Lib.hid (HB2.out.trans (hb.mono HB2.out.size)); have HO4 := Lib.hid (ownsRow_kept HO2.out hb); clear hb HEA) | (go_at_call 53; refine (HCL.out _).mono ?_; rintro e w5 ⟨rfl, hb⟩; have HB5 := Lib.hid (HB4.out.trans (hb.mono HB4.out.size)); have HO5 := Lib.hid (ownsRow_kept HO4.out hb); clear hb HCL) | (at_builtin; (refine app_pm rfl _ _ rfl w1.heap.size a c L ⟨y, qb, false⟩ rfl (ownsRow_kept HO5.out (Below.alloc (Below.refl _ _) (Nat.le_refl _) _)) (Nat.le_trans HB5.out.size (by rw [World.size_alloc]; exact Nat.le_succ _)) w5.heap.size rfl (Blk.new _ _ _) HLL.out ?_); rintro a6 c6 w6 ho6 hb6; have HO6 := Lib.hid ho6; have HB6 := Lib.hid ((HB5.out.alloc HB5.out.size _).trans hb6); clear ho6 hb6))
                refine ⟨⟨k + 1, L ++ [Pm.mk y qb false], a6, c6, by omega, by go_num, by rw [List.length_append]; rfl, Lib.hid HY2.out, HY1, HO6, HB6⟩, ?_⟩
                simp [intOf]
                omega
              · obtain ⟨h5, h6⟩ := h5
                subst h5
                rw [h6] at HVL
                go_wp2_with (first | (go_at_call 24; refine HCK.out.mono ?_; rintro e w2 ⟨rfl, hb⟩; have HB2 := Lib.hid (HBW.out.trans (hb.mono HBW.out.size)); have HO2 := Lib.hid (ownsRow_kept HOW.out hb); clear hb HCK) | (go_at_call 97; refine (HKY.out _).mono ?_; rintro e w3 ⟨rfl, rfl⟩) | (go_at_call 54; refine (HVL.out _).mono ?_; rintro e w3 ⟨rfl, rfl⟩) | (go_at_call 46; refine (HEA.out _).mono ?_; rintro e w4 ⟨rfl, hb⟩; have HB4 := Lib.hid (HB2.out.trans (hb.mono HB2.out.size)); have HO4 := Lib.hid (ownsRow_kept HO2.out hb); clear hb HEA) | (go_at_call 53; refine (HCL.out _).mono ?_; rintro e w5 ⟨rfl, hb⟩; have HB5 := Lib.hid (HB4.out.trans (hb.mono HB4.out.size)); have HO5 := Lib.hid (ownsRow_kept HO4.out hb); clear hb HCL) | (at_builtin; (refine app_pm rfl _ _ rfl w1.heap.size a c L ⟨y, qb, true⟩ rfl (ownsRow_kept HO5.out (Below.alloc (Below.refl _ _) (Nat.le_refl _) _)) (Nat.le_trans HB5.out.size (by rw [World.size_alloc]; exact Nat.le_succ _)) w5.heap.size rfl (Blk.new _ _ _) HLL.out ?_); rintro a6 c6 w6 ho6 hb6; have HO6 := Lib.hid ho6; have HB6 := Lib.hid ((HB5.out.alloc HB5.out.size _).trans hb6); clear ho6 hb6))
                refine ⟨⟨k + 1, L ++ [Pm.mk y qb true], a6, c6, by omega, by go_num, by rw [List.length_append]; rfl, Lib.hid HY2.out, HY1, HO6, HB6⟩, ?_⟩
                simp [intOf]
                omega
          · have hke : k = n := by omega
            subst hke
            have hkz : ¬ (k : Int) < (k : Int) := by omega
            have HO : Hid (l.all pmOk = true) := by
              have h1 := HAL.out
              rw [show k = l.length from HN.out, List.take_length] at h1
              exact h1
            have HLM : Hid (L = l.map pmOf) := by
              have h1 := HL.out
              rw [show k = l.length from HN.out, List.take_length] at h1
              exact h1
            have HLK : Hid (L.length = k) := by
              show _ = _
              rw [HLM.out, List.length_map]
              exact HN.out.symm
            have HP3 : Hid (RowFrom B wr a ((l.map pmOf).flatMap pmCells)) := by
              rw [← HLM.out]
              exact (RowFrom.own HOW.out (by rw [pmFlat_len, HLK.out]; unfold maxLen; omega)).mono HB1s.out
            have HRM : Hid (k ≤ c) := by
              have h1 := own_room HOW.out
              rw [HLK.out] at h1
              exact h1
            have hlk : (L.length : Int) = (k : Int) := by rw [HLK.out]
            clear HAL HL
            rw [show L.length = k from HLK.out]
            go_wp2
            exact HQY.out ⟨hp, HO.out⟩ a c wr HP3.out HRM.out (HRB.out wr HBW.out)
    · rw [decide_eq_false hp] at hp0
      go_enter Tryz.func73, Tryz.ntmps73
      go_upto_region 2 with (go_at_call 96; refine HS.out.mono ?_; rintro e w1 ⟨rfl, h1, h2⟩; have HT := Lib.hid h1; have HB1 := Lib.hid h2; clear h1 h2 HS)
      obtain ⟨b, o, hbo, c0⟩ := TextsAt.at_ HT.out (k := 0) (by simp)
      injection hbo with hbo
      injection hbo with hb1 hb2
      subst hb1 hb2
      simp only [List.getElem_cons_zero, Nat.zero_add] at c0
      generalize bs p = sp at *
      go_wp2
      exact HQN.out (fun h => hp h.1) w1 HB1.out
end Go.Proofs.YtnkepdeegpampaaGreatDoor

/-
  A text from a place on. No conditions.
-/
namespace Go.Proofs.YtnkepdeegpampaaGreatDoor
open Go.RowKit Go.Shelf

theorem str_from (s : List UInt8) (j : Nat) (hj : j ≤ s.length) (W : World) : (Instr.slice 9 (.string (bs s)) (some (.int .i64 (j : Int))) none none).run Tryz.prog W = .ok (.string (bs (s.drop j))) W := by
  rw [run_slice_string_l W 9 (bs s) Tryz.underlying9 .i64 (j : Int) (by omega) (by rw [bs_size]; omega)]
  congr 2
  simp only [Int.toNat_natCast]
  have : ((bs s).extract j (bs s).size).data = (bs (s.drop j)).data := by
    rw [ByteArray.data_extract, bs_size]
    apply Array.toList_inj.1
    simp [bs, List.extract_eq_take_drop]
    exact List.take_of_length_le (by simp)
  cases h1 : (bs s).extract j (bs s).size
  rw [h1] at this
  cases h2 : bs (s.drop j)
  rw [h2] at this
  simp only at this
  rw [this]
end Go.Proofs.YtnkepdeegpampaaGreatDoor

/-
  The contracts of command.isBracket, command.isAlone, command.sent. Conditions: texts of at most 10000 bytes; the variables that are read.
-/
namespace Go.Proofs.YtnkepdeegpampaaGreatDoor
open Go.RowKit Go.Shelf

theorem trim_one (c : UInt8) (s : List UInt8) : Lib.trimPrefix s [c] = (if s.head? == some c then s.drop 1 else s) ∧ Lib.hasPrefix s [c] = (s.head? == some c) := by
  unfold Lib.trimPrefix Lib.hasPrefix
  cases s with
  | nil => exact ⟨rfl, rfl⟩
  | cons x s =>
    by_cases hx : c = x
    · subst hx
      simp [List.isPrefixOf]
    · have h1 : (c == x) = false := by simpa using hx
      have h2 : (x == c) = false := by simpa using fun e => hx e.symm
      simp [List.isPrefixOf, h1, h2]
theorem trim_last (c : UInt8) (s : List UInt8) : Lib.hasSuffix s [c] = (s.getLast? == some c) ∧ (Lib.hasSuffix s [c] = true → Lib.trimSuffix s [c] = s.dropLast) := by
  have h : Lib.hasSuffix s [c] = (s.getLast? == some c) := by
    unfold Lib.hasSuffix List.isSuffixOf
    rw [List.getLast?_eq_head?_reverse]
    cases s.reverse with
    | nil => rfl
    | cons x r =>
      by_cases hx : c = x
      · subst hx
        simp [List.isPrefixOf]
      · have h1 : (c == x) = false := by simpa using hx
        have h2 : (x == c) = false := by simpa using fun e => hx e.symm
        simp [List.isPrefixOf, h1, h2]
  refine ⟨h, fun hs => ?_⟩
  unfold Lib.trimSuffix
  rw [if_pos hs, List.dropLast_eq_take]
  rfl
set_option maxHeartbeats 1000000 in
theorem isBracket_any (s : List UInt8) (hs : s.length ≤ 10000) (w : World) (he : Env w) : Calls Tryz.prog 50 #[.string (bs s)] w fun e w' => e = .returned (.bool (brP s)) ∧ Below w.heap.size w w' := by
  obtain ⟨a1, a2⟩ := trim_one 91 s
  have HP := Lib.hid (Tryz.strings_CutPrefix (bs s) ⟨#[91]⟩ w)
  have e1 : (bs s).data.toList = s := rfl
  have e2 : (⟨#[91]⟩ : ByteArray).data.toList = [91] := rfl
  rw [e1, e2, a2, a1] at HP
  unfold brP
  cases h1 : (s.head? == some 91) with
  | false =>
    rw [h1] at HP
    have HS := Lib.hid (Tryz.strings_CutSuffix (bs s) ⟨#[93]⟩ w (by rw [bs_size]; omega))
    generalize Lib.trimSuffix (bs s).data.toList (⟨#[93]⟩ : ByteArray).data.toList = z1 at *
    generalize Lib.hasSuffix (bs s).data.toList (⟨#[93]⟩ : ByteArray).data.toList = z2 at *
    rw [if_neg (by decide)] at HP
    have e3 : (⟨s.toArray⟩ : ByteArray) = bs s := rfl
    rw [e3] at HP
    clear e1 e2 a1 a2 e3 h1 hs he
    generalize bs s = S at *
    go_enter Tryz.func50, Tryz.ntmps50
    go_wp2_with (first | (go_at_call 69; refine HP.out.mono ?_; rintro e w1 ⟨rfl, rfl⟩) | (go_at_call 70; refine HS.out.mono ?_; rintro e w1 ⟨rfl, rfl⟩))
    all_goals go_ret
    all_goals exact ⟨rfl, Below.refl _ _⟩
  | true =>
    rw [h1] at HP
    rw [if_pos rfl] at HP
    obtain ⟨t, ht⟩ : ∃ t, t = s.drop 1 := ⟨_, rfl⟩
    rw [← ht] at HP ⊢
    have htl : t.length ≤ 10000 := by rw [ht, List.length_drop]; omega
    have e3 : (⟨t.toArray⟩ : ByteArray) = bs t := rfl
    rw [e3] at HP
    obtain ⟨b1, b2⟩ := trim_last 93 t
    have HS := Lib.hid (Tryz.strings_CutSuffix (bs t) ⟨#[93]⟩ w (by rw [bs_size]; omega))
    have e4 : (bs t).data.toList = t := rfl
    have e5 : (⟨#[93]⟩ : ByteArray).data.toList = [93] := rfl
    rw [e4, e5] at HS
    clear e1 e2 a1 a2 e3 e4 e5 h1 hs ht
    cases h2 : (t.getLast? == some 93) with
    | false =>
      rw [b1, h2] at HS
      generalize Lib.trimSuffix t [93] = z1 at *
      clear b1 b2 h2 he htl
      generalize bs t = T at *
      generalize bs s = S at *
      go_enter Tryz.func50, Tryz.ntmps50
      go_wp2_with (first | (go_at_call 69; refine HP.out.mono ?_; rintro e w1 ⟨rfl, rfl⟩) | (go_at_call 70; refine HS.out.mono ?_; rintro e w1 ⟨rfl, rfl⟩))
      all_goals go_ret
      all_goals exact ⟨rfl, Below.refl _ _⟩
    | true =>
      rw [b1] at b2
      rw [b2 h2, b1, h2] at HS
      have e6 : (⟨t.dropLast.toArray⟩ : ByteArray) = bs t.dropLast := rfl
      rw [e6] at HS
      have HL := Lib.hid (literal_fun t.dropLast (by rw [List.length_dropLast]; omega) w he.err.1 he.err.2)
      have hb : (true && true && wB t.dropLast) = wB t.dropLast := by simp
      rw [hb]
      clear b1 b2 h2 he htl hb e6
      generalize wB t.dropLast = B at *
      generalize bs t.dropLast = T1 at *
      generalize bs t = T at *
      generalize bs s = S at *
      go_enter Tryz.func50, Tryz.ntmps50
      go_wp2_with (first | (go_at_call 69; refine HP.out.mono ?_; rintro e w1 ⟨rfl, rfl⟩) | (go_at_call 70; refine HS.out.mono ?_; rintro e w1 ⟨rfl, rfl⟩) | (go_at_call 71; refine HL.out.mono ?_; rintro e w2 ⟨rfl, hb⟩; have HB := Lib.hid hb; clear hb))
      all_goals go_ret
      all_goals exact ⟨rfl, HB.out⟩
set_option maxHeartbeats 400000 in
theorem cIsAlone_any (p : Pa) (a : Option Addr) (c : Nat) (w : World) : Calls Tryz.prog 52 #[paV p a c] w fun e w' => e = .returned (.bool (aloneC p)) ∧ Below w.heap.size w w' := by
  have hd0 : (bs p.dom).toList.isEmpty = decide (p.dom = []) := by rw [bs_toL]; cases p.dom <;> rfl
  have hd1 := toL_eq p.dom []
  have HB : Hid (∀ o, Below w.heap.size w (w.alloc o)) := fun o => (Below.refl _ w).alloc (Nat.le_refl _) _
  unfold paV paCells aloneC
  cases hn : p.null with
  | true =>
    go_enter Tryz.func52, Tryz.ntmps52
    go_wp2
    all_goals go_ret
    all_goals exact ⟨rfl, HB.out _⟩
  | false =>
    generalize decide (p.dom = []) = D at *
    generalize bs p.dom = S at *
    go_enter Tryz.func52, Tryz.ntmps52
    go_wp2
    all_goals go_ret
    all_goals exact ⟨ret_bool (by simp [*]), HB.out _⟩
/-- what path.Parse told, where its route lies -/
theorem parse_from (s : List UInt8) (hs : s.length ≤ 1099511627776) (w : World) (he : ErrAt w ∧ ErrG < w.heap.size) : Calls Tryz.prog 72 #[.string (bs s)] w fun e w' => ∃ a c, e = .returned (.tuple #[paV (parseP s).2.1 a c, .int .i64 (((parseP s).2.2 : Nat) : Int), .int .i64 (parseP s).1]) ∧ RowFrom w.heap.size w' a ((parseP s).2.1.route.map textV) ∧ (parseP s).2.1.route.length ≤ c ∧ Below w.heap.size w w' := by
  refine (parse_fun s hs w he.1 he.2).mono ?_
  rintro e w' ⟨v, h1, h2, h3⟩
  have hl := parseP_route s
  obtain ⟨a, c, rfl, h4⟩ := own_slice h2 (by rw [List.length_map]; unfold maxLen; omega)
  exact ⟨a, c, h1, RowFrom.own h2 (by rw [List.length_map]; unfold maxLen; omega), own_room h2, h3⟩
theorem set5_ {W : World} {g : Nat} {t : TypeId} {c0 c1 c2 c3 c4 : Value} (h : Blk W g t #[c0, c1, c2, c3, c4]) (v0 v1 v2 v3 v4 : Value) : Blk (((((W.setCell ⟨g, 0, none⟩ v0).setCell ⟨g, 1, none⟩ v1).setCell ⟨g, 2, none⟩ v2).setCell ⟨g, 3, none⟩ v3).setCell ⟨g, 4, none⟩ v4) g t #[v0, v1, v2, v3, v4] := by
  have h0 : Blk (W.setCell ⟨g, 0, none⟩ v0) g t #[v0, c1, c2, c3, c4] := h.set_ 0 v0
  have h1 : Blk ((W.setCell ⟨g, 0, none⟩ v0).setCell ⟨g, 1, none⟩ v1) g t #[v0, v1, c2, c3, c4] := h0.set_ 1 v1
  have h2 : Blk (((W.setCell ⟨g, 0, none⟩ v0).setCell ⟨g, 1, none⟩ v1).setCell ⟨g, 2, none⟩ v2) g t #[v0, v1, v2, c3, c4] := h1.set_ 2 v2
  have h3 : Blk ((((W.setCell ⟨g, 0, none⟩ v0).setCell ⟨g, 1, none⟩ v1).setCell ⟨g, 2, none⟩ v2).setCell ⟨g, 3, none⟩ v3) g t #[v0, v1, v2, v3, c4] := h2.set_ 3 v3
  have h4 : Blk (((((W.setCell ⟨g, 0, none⟩ v0).setCell ⟨g, 1, none⟩ v1).setCell ⟨g, 2, none⟩ v2).setCell ⟨g, 3, none⟩ v3).setCell ⟨g, 4, none⟩ v4) g t #[v0, v1, v2, v3, v4] := h3.set_ 4 v4
  exact h4
theorem low5_ {B g : Nat} {w W : World} (h : Below B w W) (hg : B ≤ g) (v0 v1 v2 v3 v4 : Value) : Below B w (((((W.setCell ⟨g, 0, none⟩ v0).setCell ⟨g, 1, none⟩ v1).setCell ⟨g, 2, none⟩ v2).setCell ⟨g, 3, none⟩ v3).setCell ⟨g, 4, none⟩ v4) := (Below.setCell (p := ⟨g, 4, none⟩) (Below.setCell (p := ⟨g, 3, none⟩) (Below.setCell (p := ⟨g, 2, none⟩) (Below.setCell (p := ⟨g, 1, none⟩) (Below.setCell (p := ⟨g, 0, none⟩) h hg v0) hg v1) hg v2) hg v3) hg v4)
theorem row5_ {B g : Nat} {W : World} {a : Option Addr} {l : List Value} (h : RowFrom B W a l) (hg : g < B) (v0 v1 v2 v3 v4 : Value) : RowFrom B (((((W.setCell ⟨g, 0, none⟩ v0).setCell ⟨g, 1, none⟩ v1).setCell ⟨g, 2, none⟩ v2).setCell ⟨g, 3, none⟩ v3).setCell ⟨g, 4, none⟩ v4) a l := (((((h.set_ hg 0 v0).set_ hg 1 v1).set_ hg 2 v2).set_ hg 3 v3).set_ hg 4 v4)
theorem set8_ {W : World} {g : Nat} {t : TypeId} {c0 c1 c2 c3 c4 c5 c6 c7 : Value} (h : Blk W g t #[c0, c1, c2, c3, c4, c5, c6, c7]) (v0 v1 v2 v3 v4 v5 v6 v7 : Value) : Blk ((((((((W.setCell ⟨g, 0, none⟩ v0).setCell ⟨g, 1, none⟩ v1).setCell ⟨g, 2, none⟩ v2).setCell ⟨g, 3, none⟩ v3).setCell ⟨g, 4, none⟩ v4).setCell ⟨g, 5, none⟩ v5).setCell ⟨g, 6, none⟩ v6).setCell ⟨g, 7, none⟩ v7) g t #[v0, v1, v2, v3, v4, v5, v6, v7] := by
  have h0 : Blk (W.setCell ⟨g, 0, none⟩ v0) g t #[v0, c1, c2, c3, c4, c5, c6, c7] := h.set_ 0 v0
  have h1 : Blk ((W.setCell ⟨g, 0, none⟩ v0).setCell ⟨g, 1, none⟩ v1) g t #[v0, v1, c2, c3, c4, c5, c6, c7] := h0.set_ 1 v1
  have h2 : Blk (((W.setCell ⟨g, 0, none⟩ v0).setCell ⟨g, 1, none⟩ v1).setCell ⟨g, 2, none⟩ v2) g t #[v0, v1, v2, c3, c4, c5, c6, c7] := h1.set_ 2 v2
  have h3 : Blk ((((W.setCell ⟨g, 0, none⟩ v0).setCell ⟨g, 1, none⟩ v1).setCell ⟨g, 2, none⟩ v2).setCell ⟨g, 3, none⟩ v3) g t #[v0, v1, v2, v3, c4, c5, c6, c7] := h2.set_ 3 v3
  have h4 : Blk (((((W.setCell ⟨g, 0, none⟩ v0).setCell ⟨g, 1, none⟩ v1).setCell ⟨g, 2, none⟩ v2).setCell ⟨g, 3, none⟩ v3).setCell ⟨g, 4, none⟩ v4) g t #[v0, v1, v2, v3, v4, c5, c6, c7] := h3.set_ 4 v4
  have h5 : Blk ((((((W.setCell ⟨g, 0, none⟩ v0).setCell ⟨g, 1, none⟩ v1).setCell ⟨g, 2, none⟩ v2).setCell ⟨g, 3, none⟩ v3).setCell ⟨g, 4, none⟩ v4).setCell ⟨g, 5, none⟩ v5) g t #[v0, v1, v2, v3, v4, v5, c6, c7] := h4.set_ 5 v5
  have h6 : Blk (((((((W.setCell ⟨g, 0, none⟩ v0).setCell ⟨g, 1, none⟩ v1).setCell ⟨g, 2, none⟩ v2).setCell ⟨g, 3, none⟩ v3).setCell ⟨g, 4, none⟩ v4).setCell ⟨g, 5, none⟩ v5).setCell ⟨g, 6, none⟩ v6) g t #[v0, v1, v2, v3, v4, v5, v6, c7] := h5.set_ 6 v6
  have h7 : Blk ((((((((W.setCell ⟨g, 0, none⟩ v0).setCell ⟨g, 1, none⟩ v1).setCell ⟨g, 2, none⟩ v2).setCell ⟨g, 3, none⟩ v3).setCell ⟨g, 4, none⟩ v4).setCell ⟨g, 5, none⟩ v5).setCell ⟨g, 6, none⟩ v6).setCell ⟨g, 7, none⟩ v7) g t #[v0, v1, v2, v3, v4, v5, v6, v7] := h6.set_ 7 v7
  exact h7
theorem low8_ {B g : Nat} {w W : World} (h : Below B w W) (hg : B ≤ g) (v0 v1 v2 v3 v4 v5 v6 v7 : Value) : Below B w ((((((((W.setCell ⟨g, 0, none⟩ v0).setCell ⟨g, 1, none⟩ v1).setCell ⟨g, 2, none⟩ v2).setCell ⟨g, 3, none⟩ v3).setCell ⟨g, 4, none⟩ v4).setCell ⟨g, 5, none⟩ v5).setCell ⟨g, 6, none⟩ v6).setCell ⟨g, 7, none⟩ v7) := (Below.setCell (p := ⟨g, 7, none⟩) (Below.setCell (p := ⟨g, 6, none⟩) (Below.setCell (p := ⟨g, 5, none⟩) (Below.setCell (p := ⟨g, 4, none⟩) (Below.setCell (p := ⟨g, 3, none⟩) (Below.setCell (p := ⟨g, 2, none⟩) (Below.setCell (p := ⟨g, 1, none⟩) (Below.setCell (p := ⟨g, 0, none⟩) h hg v0) hg v1) hg v2) hg v3) hg v4) hg v5) hg v6) hg v7)
theorem row8_ {B g : Nat} {W : World} {a : Option Addr} {l : List Value} (h : RowFrom B W a l) (hg : g < B) (v0 v1 v2 v3 v4 v5 v6 v7 : Value) : RowFrom B ((((((((W.setCell ⟨g, 0, none⟩ v0).setCell ⟨g, 1, none⟩ v1).setCell ⟨g, 2, none⟩ v2).setCell ⟨g, 3, none⟩ v3).setCell ⟨g, 4, none⟩ v4).setCell ⟨g, 5, none⟩ v5).setCell ⟨g, 6, none⟩ v6).setCell ⟨g, 7, none⟩ v7) a l := ((((((((h.set_ hg 0 v0).set_ hg 1 v1).set_ hg 2 v2).set_ hg 3 v3).set_ hg 4 v4).set_ hg 5 v5).set_ hg 6 v6).set_ hg 7 v7)
/-- what sent tells, in memory -/
def SentOut (w : World) (T : Pa × List Pm × Bool) (e : Ending) (w' : World) : Prop := ∃ a c b d, e = .returned (.tuple #[paV T.1 a c, .slice b T.2.1.length d, .bool T.2.2]) ∧ RowFrom w.heap.size w' a (T.1.route.map textV) ∧ T.1.route.length ≤ c ∧ RowFrom w.heap.size w' b (T.2.1.flatMap pmCells) ∧ T.2.1.length ≤ d ∧ Below w.heap.size w w'
def paZero : Array Value := #[.bool false, .slice none 0 0, .string ⟨#[]⟩, .string ⟨#[]⟩, .bool false]
set_option maxRecDepth 100000 in
set_option maxHeartbeats 2000000 in
theorem sent_any (s ahead : List UInt8) (hs : s.length ≤ 510) (ha : ahead.length ≤ 10) (w : World) (he : Env w) : Calls Tryz.prog 51 #[.string (bs s), .string (bs ahead)] w (SentOut w (sentP s ahead)) := by
  obtain ⟨W0, hW0⟩ : ∃ W0, W0 = w.alloc (.cells #[.bool false, .slice none 0 0, .string ⟨#[]⟩, .string ⟨#[]⟩, .bool false] 26) := ⟨_, rfl⟩
  have hsz : W0.heap.size = w.heap.size + 1 := by rw [hW0, World.size_alloc]
  have hb0 : Below w.heap.size w W0 := by rw [hW0]; exact (Below.refl _ w).alloc (Nat.le_refl _) _
  have hx0 : Blk W0 w.heap.size 26 paZero := by rw [hW0]; exact Blk.new _ _ _
  have he0 := he.later hb0
  have HE := Lib.hid (fun W (hW : Below W0.heap.size W0 W) => he0.later hW)
  have HX := Lib.hid (fun W (hW : Below W0.heap.size W0 W) => (show Blk W w.heap.size 26 paZero from hx0.below hW hx0.lt))
  have HB := Lib.hid (fun W (hW : Below W0.heap.size W0 W) => low_trans hb0 hW)
  have HBS : Hid (∀ W' i u, Below w.heap.size w W' → Below w.heap.size w (W'.setCell ⟨w.heap.size, i, none⟩ u)) := fun W' i u h => h.setCell (p := ⟨w.heap.size, i, none⟩) (Nat.le_refl _) u
  have HEA := Lib.hid (fun t (ht : t.length ≤ 10000) W => ceach_any great_any ent_great t (by omega) W)
  have HW0 := Lib.hid hW0
  have hls : (bs s).size = s.length := rfl
  have hla : (bs ahead).size = ahead.length := rfl
  have hxx := toL_eq (up (s.take ahead.length)) ahead
  have HQ0 : Hid (∀ W', sentP s ahead = ({}, [], false) → Below w.heap.size w W' → SentOut w (sentP s ahead) (.returned (.tuple #[.agg #[.bool false, .slice none 0 0, .string ⟨#[]⟩, .string ⟨#[]⟩, .bool false], .slice none 0 0, .bool false])) W') := fun W' h hb => by
    rw [h]
    exact ⟨none, 0, none, 0, rfl, RowFrom.none_ _ _ _, Nat.le_refl _, RowFrom.none_ _ _ _, Nat.le_refl _, hb⟩
  by_cases hlt : s.length < ahead.length
  · have hsp : sentP s ahead = ({}, [], false) := by unfold sentP; rw [if_pos (Or.inl hlt)]
    have HO := Lib.hid (fun W' hb => HQ0.out W' hsp hb)
    generalize SentOut w (sentP s ahead) = Q at *
    have hx := HX.out W0 (Below.refl _ _)
    have HL := Lib.hid (HB.out W0 (Below.refl _ _))
    have HK := Lib.hid hx
    obtain ⟨x0, x1, x2, x3, x4⟩ : W0.cell? ⟨w.heap.size, 0, none⟩ = some (.bool false) ∧ W0.cell? ⟨w.heap.size, 1, none⟩ = some (.slice none 0 0) ∧ W0.cell? ⟨w.heap.size, 2, none⟩ = some (.string ⟨#[]⟩) ∧ W0.cell? ⟨w.heap.size, 3, none⟩ = some (.string ⟨#[]⟩) ∧ W0.cell? ⟨w.heap.size, 4, none⟩ = some (.bool false) := ⟨hx.cell 0, hx.cell 1, hx.cell 2, hx.cell 3, hx.cell 4⟩
    have y0 := hx.frozen 0
    have y1 := hx.frozen 1
    have y2 := hx.frozen 2
    have y3 := hx.frozen 3
    have y4 := hx.frozen 4
    have hzl : (s.length : Int) < (ahead.length : Int) := by omega
    clear hW0 hb0 hx0 he0 he hx hsp hxx HX HQ0 HE HEA
    generalize bs s = S at *
    generalize bs ahead = H at *
    go_enter Tryz.func51, Tryz.ntmps51
    go_upto_region 1 with (fail)
    rw [← HW0.out]
    obtain ⟨g0, hg0⟩ : ∃ g0, g0 = w.heap.size := ⟨_, rfl⟩
    have HG := Lib.hid hg0
    rw [← hg0] at x0 x1 x2 x3 x4 y0 y1 y2 y3 y4 HK HO HL HBS ⊢
    clear hg0 HW0 hsz
    go_wp2
    refine bodyPost_ret (results_cell_tmp2 rfl _ _ g0 26 _ (0, 0) _ rfl (set5_ HK.out _ _ _ _ _) Tryz.underlying26 rfl infoPath) rfl ?_
    exact HO.out _ (low5_ HL.out (Nat.le_refl _) _ _ _ _ _)
  · have hge : ahead.length ≤ s.length := by omega
    have hcut : ∀ W, (Instr.slice 9 (.string (bs s)) none (some (.int .i64 (ahead.length : Int))) none).run Tryz.prog W = .ok (.string (bs (s.take ahead.length))) W := fun W => str_to s ahead.length hge W
    have hbe : ∀ W, (Instr.slice 9 (.string (bs s)) (some (.int .i64 (ahead.length : Int))) none none).run Tryz.prog W = .ok (.string (bs (s.drop ahead.length))) W := fun W => str_from s ahead.length hge W
    have hzl : ¬ (s.length : Int) < (ahead.length : Int) := by omega
    have HE1 := Lib.hid (HEA.out (s.take ahead.length) (by rw [List.length_take]; omega) W0)
    have HUP : Hid ((s.take ahead.length).map upc = up (s.take ahead.length)) := rfl
    rw [HUP.out] at HE1
    have HK := Lib.hid (HX.out W0 (Below.refl _ _))
    clear HUP
    by_cases hup : up (s.take ahead.length) = ahead
    · have hsp : sentP s ahead = sentQ (s.drop ahead.length) := by unfold sentP; rw [if_neg (by rintro (h | h); exact hlt h; exact h hup)]
      rw [decide_eq_true hup] at hxx
      have hul : (s.drop ahead.length).length ≤ 510 := by rw [List.length_drop]; omega
      rw [hsp]
      rw [hsp] at HQ0
      generalize s.drop ahead.length = u at *
      have HPC := Lib.hid (fun W (hW : Env W) => parse_from u (by omega) W hW.err)
      have hps := parse_short u
      have hb2 : ∀ W, (Instr.slice 9 (.string (bs u)) (some (.int .i64 (((parseP u).2.2 : Nat) : Int))) none none).run Tryz.prog W = .ok (.string (bs (u.drop (parseP u).2.2))) W := fun W => str_from u _ hps W
      have HPM := Lib.hid (fun W (hW : Env W) => params_any (u.drop (parseP u).2.2) (by rw [List.length_drop]; omega) W hW)
      have hus : (bs u).size = u.length := rfl
      have hmz : (((parseP u).2.2 : Nat) : Int) ≤ (u.length : Int) := by omega
      have HQ1 : Hid ((parseP u).1 = 0 → ∀ W' a c b d, RowFrom w.heap.size W' a ((parseP u).2.1.route.map textV) → (parseP u).2.1.route.length ≤ c → RowFrom w.heap.size W' b ((paramsP (u.drop (parseP u).2.2)).1.flatMap pmCells) → (paramsP (u.drop (parseP u).2.2)).1.length ≤ d → Below w.heap.size w W' → SentOut w (sentQ u) (.returned (.tuple #[paV (parseP u).2.1 a c, .slice b (paramsP (u.drop (parseP u).2.2)).1.length d, .bool (paramsP (u.drop (parseP u).2.2)).2])) W') := fun h W' a c b d h1 h2 h3 h4 h5 => by
        have e : sentQ u = ((parseP u).2.1, paramsP (u.drop (parseP u).2.2)) := by unfold sentQ; rw [if_pos h]
        rw [e]
        exact ⟨a, c, b, d, rfl, h1, h2, h3, h4, h5⟩
      have HQ2 : Hid ((parseP u).1 ≠ 0 → ∀ W', Below w.heap.size w W' → SentOut w (sentQ u) (.returned (.tuple #[.agg #[.bool false, .slice none 0 0, .string ⟨#[]⟩, .string ⟨#[]⟩, .bool false], .slice none 0 0, .bool false])) W') := fun h W' hb => HQ0.out W' (by unfold sentQ; rw [if_neg h]) hb
      generalize SentOut w (sentQ u) = Q at *
      have HCE : Hid (∀ W, Below W0.heap.size W0 W → (W.cell? ⟨w.heap.size, 0, none⟩ = some (.bool false) ∧ W.cell? ⟨w.heap.size, 1, none⟩ = some (.slice none 0 0) ∧ W.cell? ⟨w.heap.size, 2, none⟩ = some (.string ⟨#[]⟩) ∧ W.cell? ⟨w.heap.size, 3, none⟩ = some (.string ⟨#[]⟩) ∧ W.cell? ⟨w.heap.size, 4, none⟩ = some (.bool false)) ∧ (∀ i, W.frozen? ⟨w.heap.size, i, none⟩ = false)) := fun W hW => by
        have hx := HX.out W hW
        exact ⟨⟨hx.cell 0, hx.cell 1, hx.cell 2, hx.cell 3, hx.cell 4⟩, fun i => hx.frozen i⟩
      have HSZ : Hid (w.heap.size < W0.heap.size) := by show _ < _; omega
      clear hW0 hb0 hx0 he0 he hsp hup HQ0 HEA hps
      generalize paramsP (u.drop (parseP u).2.2) = T at *
      generalize bs (u.drop (parseP u).2.2) = D2 at *
      generalize (parseP u).2.2 = m at *
      generalize (parseP u).2.1 = p at *
      generalize (parseP u).1 = z at *
      generalize u.length = un at *
      generalize bs (up (s.take ahead.length)) = U at *
      generalize bs (s.take ahead.length) = T0 at *
      generalize bs u = D at *
      generalize bs s = S at *
      generalize bs ahead = H at *
      obtain ⟨tl, tb⟩ := T
      go_enter Tryz.func51, Tryz.ntmps51
      go_upto_region 1 with (fail)
      rw [← HW0.out]
      obtain ⟨g0, hg0⟩ : ∃ g0, g0 = w.heap.size := ⟨_, rfl⟩
      rw [← hg0] at HCE HX HQ1 HQ2 HBS HB HSZ ⊢
      clear hg0 HW0 hsz
      go_upto_region 2 with (go_at_call 46; refine HE1.out.mono ?_; rintro e w1 ⟨rfl, hb⟩; have HL1 := Lib.hid hb; clear hb)
      go_upto_region 5 with (go_at_call 72; refine (HPC.out w1 (HE.out w1 HL1.out)).mono ?_; rintro e w2 ⟨a2, c2, rfl, hr2, hc2, hb⟩; unfold paV paCells; have HL2 := Lib.hid (low_trans HL1.out hb); have HR2 := Lib.hid (hr2.mono (Nat.lt_of_lt_of_le HSZ.out HL1.out.size)); have HC2 := Lib.hid hc2; clear hb hr2 hc2)
      obtain ⟨W3, hW3⟩ : ∃ W3, W3 = w2.alloc (.cells #[.bool p.null, .slice a2 p.route.length c2, .string (bs p.loc), .string (bs p.dom), .bool p.lit] 26) := ⟨_, rfl⟩
      obtain ⟨g3, hg3⟩ : ∃ g, g = w2.heap.size := ⟨_, rfl⟩
      have HK3 : Hid (Blk W3 g3 26 #[.bool p.null, .slice a2 p.route.length c2, .string (bs p.loc), .string (bs p.dom), .bool p.lit]) := by rw [hW3, hg3]; exact Blk.new _ _ _
      have HL3 : Hid (Below W0.heap.size W0 W3) := by rw [hW3]; exact HL2.out.alloc HL2.out.size _
      have HR3 : Hid (RowFrom (g0 + 1) W3 a2 (p.route.map textV)) := by rw [hW3]; exact HR2.out.below ((Below.refl _ w2).alloc (Nat.le_refl _) _)
      have HG3 : Hid (g0 < g3) := by rw [hg3]; exact Nat.lt_of_lt_of_le HSZ.out HL2.out.size
      rw [← hW3, ← hg3]
      clear hW3 hg3 HE1
      by_cases hz : z = 0
      · subst hz
        have HO := Lib.hid (HQ1.out rfl)
        clear HQ1 HQ2
        go_upto_region 8 with (go_at_call 73; refine (HPM.out W3 (HE.out W3 HL3.out)).mono ?_; rintro e w4 ⟨b4, d4, rfl, hr4, hd4, hb⟩; have HL4 := Lib.hid (low_trans HL3.out hb); have HR4 := Lib.hid (hr4.mono (Nat.lt_of_lt_of_le HSZ.out HL3.out.size)); have HRA := Lib.hid (HR3.out.below hb); have HD4 := Lib.hid hd4; have HK4 := Lib.hid (HK3.out.below hb HK3.out.lt); clear hb hr4 hd4)
        obtain ⟨⟨x0, x1, x2, x3, x4⟩, hf⟩ := HCE.out w4 HL4.out
        have y0 := hf 0
        have y1 := hf 1
        have y2 := hf 2
        have y3 := hf 3
        have y4 := hf 4
        have v0 := HK4.out.cell 0
        have v1 := HK4.out.cell 1
        have v2 := HK4.out.cell 2
        have v3 := HK4.out.cell 3
        have v4 := HK4.out.cell 4
        simp at v0 v1 v2 v3 v4
        have HKZ := Lib.hid (HX.out w4 HL4.out)
        have HBW := Lib.hid (HB.out w4 HL4.out)
        have hne : ¬ g3 = g0 := by have := HG3.out; omega
        have hne2 : ¬ g0 = g3 := by have := HG3.out; omega
        clear hf hb2 hbe hcut hxx hmz
        go_wp2
        refine bodyPost_ret (results_cell_tmp2 rfl _ _ g0 26 _ (0, 0) _ rfl (set5_ HKZ.out _ _ _ _ _) Tryz.underlying26 rfl infoPath) rfl ?_
        exact HO.out _ a2 c2 b4 d4 ((row5_ HRA.out (Nat.lt_succ_self _) _ _ _ _ _).mono (Nat.le_succ _)) HC2.out ((row5_ HR4.out (Nat.lt_succ_self _) _ _ _ _ _).mono (Nat.le_succ _)) HD4.out (low5_ HBW.out (Nat.le_refl _) _ _ _ _ _)
      · have HO := Lib.hid (HQ2.out hz)
        have hzb : (z == 0) = false := by simpa using hz
        obtain ⟨⟨x0, x1, x2, x3, x4⟩, hf⟩ := HCE.out W3 HL3.out
        have y0 := hf 0
        have y1 := hf 1
        have y2 := hf 2
        have y3 := hf 3
        have y4 := hf 4
        have HKZ := Lib.hid (HX.out W3 HL3.out)
        have HBW := Lib.hid (HB.out W3 HL3.out)
        clear hf hz HQ1 HQ2 hb2 hbe hcut hxx
        go_wp2
        refine bodyPost_ret (results_cell_tmp2 rfl _ _ g0 26 _ (0, 0) _ rfl (set5_ HKZ.out _ _ _ _ _) Tryz.underlying26 rfl infoPath) rfl ?_
        exact HO.out _ (low5_ HBW.out (Nat.le_refl _) _ _ _ _ _)
    · have hsp : sentP s ahead = ({}, [], false) := by unfold sentP; rw [if_pos (Or.inr hup)]
      rw [decide_eq_false hup] at hxx
      have HO := Lib.hid (fun W' hb => HQ0.out W' hsp hb)
      generalize SentOut w (sentP s ahead) = Q at *
      have HCE : Hid (∀ W, Below W0.heap.size W0 W → (W.cell? ⟨w.heap.size, 0, none⟩ = some (.bool false) ∧ W.cell? ⟨w.heap.size, 1, none⟩ = some (.slice none 0 0) ∧ W.cell? ⟨w.heap.size, 2, none⟩ = some (.string ⟨#[]⟩) ∧ W.cell? ⟨w.heap.size, 3, none⟩ = some (.string ⟨#[]⟩) ∧ W.cell? ⟨w.heap.size, 4, none⟩ = some (.bool false)) ∧ (∀ i, W.frozen? ⟨w.heap.size, i, none⟩ = false)) := fun W hW => by
        have hx := HX.out W hW
        exact ⟨⟨hx.cell 0, hx.cell 1, hx.cell 2, hx.cell 3, hx.cell 4⟩, fun i => hx.frozen i⟩
      clear hW0 hb0 hx0 he0 he hsp hup HQ0 HE HEA
      generalize bs (up (s.take ahead.length)) = U at *
      generalize bs (s.take ahead.length) = T at *
      generalize bs (s.drop ahead.length) = D at *
      generalize bs s = S at *
      generalize bs ahead = H at *
      have HG : Hid (w.heap.size = w.heap.size) := rfl
      go_enter Tryz.func51, Tryz.ntmps51
      go_upto_region 1 with (fail)
      rw [← HW0.out]
      obtain ⟨g0, hg0⟩ : ∃ g0, g0 = w.heap.size := ⟨_, rfl⟩
      have HGG := Lib.hid hg0
      rw [← hg0] at HCE HX HO HBS HB ⊢
      clear hg0 HW0 hsz HG
      go_upto_region 2 with (go_at_call 46; refine HE1.out.mono ?_; rintro e w1 ⟨rfl, hb⟩; have HL1 := Lib.hid (HB.out w1 hb); have HK1 := Lib.hid (HX.out w1 hb); obtain ⟨⟨x0, x1, x2, x3, x4⟩, hf⟩ := HCE.out w1 hb; have y0 := hf 0; have y1 := hf 1; have y2 := hf 2; have y3 := hf 3; have y4 := hf 4; clear hb hf)
      go_wp2
      refine bodyPost_ret (results_cell_tmp2 rfl _ _ g0 26 _ (0, 0) _ rfl (set5_ HK1.out _ _ _ _ _) Tryz.underlying26 rfl infoPath) rfl ?_
      exact HO.out _ (low5_ HL1.out (Nat.le_refl _) _ _ _ _ _)
end Go.Proofs.YtnkepdeegpampaaGreatDoor

/-
  The contract of command.told, verb by verb. Conditions: a text of at most 510 bytes; the variables that are read.
-/
namespace Go.Proofs.YtnkepdeegpampaaGreatDoor
open Go.RowKit Go.Shelf

/-- a command in memory -/
def cmCells (c : Cm) (v1 v2 : Value) : Array Value := #[.int .u8 (c.verb : Int), .string (bs c.arg), .bool c.path.null, v1, .string (bs c.path.loc), .string (bs c.path.dom), .bool c.path.lit, v2]
def cmV (c : Cm) (a1 : Option Addr) (c1 : Nat) (a2 : Option Addr) (c2 : Nat) : Value := .agg (cmCells c (.slice a1 c.path.route.length c1) (.slice a2 c.params.length c2))
/-- a command is answered, and something beside it -/
def CmdOut (w : World) (c : Cm) (x : Value) (e : Ending) (w' : World) : Prop := ∃ a1 c1 a2 c2, e = .returned (.tuple #[cmV c a1 c1 a2 c2, x]) ∧ RowFrom w.heap.size w' a1 (c.path.route.map textV) ∧ c.path.route.length ≤ c1 ∧ RowFrom w.heap.size w' a2 (c.params.flatMap pmCells) ∧ c.params.length ≤ c2 ∧ Below w.heap.size w w'
def cmZero : Array Value := #[.int .u8 0, .string ⟨#[]⟩, .bool false, .slice none 0 0, .string ⟨#[]⟩, .string ⟨#[]⟩, .bool false, .slice none 0 0]
def cmVerb (v : Int) : Array Value := #[.int .u8 v, .string ⟨#[]⟩, .bool false, .slice none 0 0, .string ⟨#[]⟩, .string ⟨#[]⟩, .bool false, .slice none 0 0]
theorem infoCmd : (Tryz.prog.info? 29).map (·.size) = some 8 := by kernel_rfl
/-- the two commands that told makes -/
structure ToldW (w : World) (v : Int) (W0 W1 : World) (g6 g8 : Nat) : Prop where
  w0 : W0 = w.alloc (.cells #[.int .u8 0, .string ⟨#[]⟩, .bool false, .slice none 0 0, .string ⟨#[]⟩, .string ⟨#[]⟩, .bool false, .slice none 0 0] 29)
  w1 : W1 = W0.alloc (.cells #[.int .u8 v, .string ⟨#[]⟩, .bool false, .slice none 0 0, .string ⟨#[]⟩, .string ⟨#[]⟩, .bool false, .slice none 0 0] 29)
  e6 : g6 = w.heap.size
  e8 : g8 = W0.heap.size
  lt : g6 < g8
  size : g8 + 1 = W1.heap.size
  env : ∀ W, Below W1.heap.size W1 W → Env W
  low : ∀ W, Below W1.heap.size W1 W → Below g6 w W
  zero : ∀ W, Below W1.heap.size W1 W → Blk W g6 29 cmZero
  verb : ∀ W, Below W1.heap.size W1 W → Blk W g8 29 (cmVerb v)
theorem told_made (w : World) (he : Env w) (v : Int) : ∃ W0 W1 g6 g8, ToldW w v W0 W1 g6 g8 := by
  refine ⟨_, _, _, _, rfl, rfl, rfl, rfl, ?_, ?_, fun W hW => ?_, fun W hW => ?_, fun W hW => ?_, fun W hW => ?_⟩
  · rw [World.size_alloc]; exact Nat.lt_succ_self _
  · simp only [World.size_alloc]
  · exact (he.later (((Below.refl _ w).alloc (Nat.le_refl _) _).alloc (by rw [World.size_alloc]; omega) _)).later hW
  · exact low_trans (((Below.refl _ w).alloc (Nat.le_refl _) _).alloc (by rw [World.size_alloc]; omega) _) hW
  · exact ((Blk.new w _ _).alloc _).below hW (by simp only [World.size_alloc]; omega)
  · exact (Blk.new _ _ _).below hW (by simp only [World.size_alloc]; omega)
theorem cmZero_cells {W : World} {g : Nat} (h : Blk W g 29 cmZero) : W.cell? ⟨g, 0, none⟩ = some (.int .u8 0) ∧ W.cell? ⟨g, 1, none⟩ = some (.string ⟨#[]⟩) ∧ W.cell? ⟨g, 2, none⟩ = some (.bool false) ∧ W.cell? ⟨g, 3, none⟩ = some (.slice none 0 0) ∧ W.cell? ⟨g, 4, none⟩ = some (.string ⟨#[]⟩) ∧ W.cell? ⟨g, 5, none⟩ = some (.string ⟨#[]⟩) ∧ W.cell? ⟨g, 6, none⟩ = some (.bool false) ∧ W.cell? ⟨g, 7, none⟩ = some (.slice none 0 0) := ⟨h.cell 0, h.cell 1, h.cell 2, h.cell 3, h.cell 4, h.cell 5, h.cell 6, h.cell 7⟩
theorem cmVerb_cells {W : World} {g : Nat} {v : Int} (h : Blk W g 29 (cmVerb v)) : W.cell? ⟨g, 0, none⟩ = some (.int .u8 v) ∧ W.cell? ⟨g, 1, none⟩ = some (.string ⟨#[]⟩) ∧ W.cell? ⟨g, 2, none⟩ = some (.bool false) ∧ W.cell? ⟨g, 3, none⟩ = some (.slice none 0 0) ∧ W.cell? ⟨g, 4, none⟩ = some (.string ⟨#[]⟩) ∧ W.cell? ⟨g, 5, none⟩ = some (.string ⟨#[]⟩) ∧ W.cell? ⟨g, 6, none⟩ = some (.bool false) ∧ W.cell? ⟨g, 7, none⟩ = some (.slice none 0 0) := ⟨h.cell 0, h.cell 1, h.cell 2, h.cell 3, h.cell 4, h.cell 5, h.cell 6, h.cell 7⟩
theorem froz8 {W : World} {g : Nat} {t : TypeId} {cs : Array Value} (h : Blk W g t cs) : W.frozen? ⟨g, 0, none⟩ = false ∧ W.frozen? ⟨g, 1, none⟩ = false ∧ W.frozen? ⟨g, 2, none⟩ = false ∧ W.frozen? ⟨g, 3, none⟩ = false ∧ W.frozen? ⟨g, 4, none⟩ = false ∧ W.frozen? ⟨g, 5, none⟩ = false ∧ W.frozen? ⟨g, 6, none⟩ = false ∧ W.frozen? ⟨g, 7, none⟩ = false := ⟨h.frozen 0, h.frozen 1, h.frozen 2, h.frozen 3, h.frozen 4, h.frozen 5, h.frozen 6, h.frozen 7⟩
theorem set6_ {W : World} {g : Nat} {t : TypeId} {c0 c1 c2 c3 c4 c5 c6 c7 : Value} (h : Blk W g t #[c0, c1, c2, c3, c4, c5, c6, c7]) (v0 v1 v2 v3 v4 v5 : Value) : Blk ((((((W.setCell ⟨g, 2, none⟩ v0).setCell ⟨g, 3, none⟩ v1).setCell ⟨g, 4, none⟩ v2).setCell ⟨g, 5, none⟩ v3).setCell ⟨g, 6, none⟩ v4).setCell ⟨g, 7, none⟩ v5) g t #[c0, c1, v0, v1, v2, v3, v4, v5] := by
  have h0 : Blk (W.setCell ⟨g, 2, none⟩ v0) g t #[c0, c1, v0, c3, c4, c5, c6, c7] := h.set_ 2 v0
  have h1 : Blk ((W.setCell ⟨g, 2, none⟩ v0).setCell ⟨g, 3, none⟩ v1) g t #[c0, c1, v0, v1, c4, c5, c6, c7] := h0.set_ 3 v1
  have h2 : Blk (((W.setCell ⟨g, 2, none⟩ v0).setCell ⟨g, 3, none⟩ v1).setCell ⟨g, 4, none⟩ v2) g t #[c0, c1, v0, v1, v2, c5, c6, c7] := h1.set_ 4 v2
  have h3 : Blk ((((W.setCell ⟨g, 2, none⟩ v0).setCell ⟨g, 3, none⟩ v1).setCell ⟨g, 4, none⟩ v2).setCell ⟨g, 5, none⟩ v3) g t #[c0, c1, v0, v1, v2, v3, c6, c7] := h2.set_ 5 v3
  have h4 : Blk (((((W.setCell ⟨g, 2, none⟩ v0).setCell ⟨g, 3, none⟩ v1).setCell ⟨g, 4, none⟩ v2).setCell ⟨g, 5, none⟩ v3).setCell ⟨g, 6, none⟩ v4) g t #[c0, c1, v0, v1, v2, v3, v4, c7] := h3.set_ 6 v4
  have h5 : Blk ((((((W.setCell ⟨g, 2, none⟩ v0).setCell ⟨g, 3, none⟩ v1).setCell ⟨g, 4, none⟩ v2).setCell ⟨g, 5, none⟩ v3).setCell ⟨g, 6, none⟩ v4).setCell ⟨g, 7, none⟩ v5) g t #[c0, c1, v0, v1, v2, v3, v4, v5] := h4.set_ 7 v5
  exact h5
theorem low6_ {B g : Nat} {w W : World} (h : Below B w W) (hg : B ≤ g) (v0 v1 v2 v3 v4 v5 : Value) : Below B w ((((((W.setCell ⟨g, 2, none⟩ v0).setCell ⟨g, 3, none⟩ v1).setCell ⟨g, 4, none⟩ v2).setCell ⟨g, 5, none⟩ v3).setCell ⟨g, 6, none⟩ v4).setCell ⟨g, 7, none⟩ v5) := (Below.setCell (p := ⟨g, 7, none⟩) (Below.setCell (p := ⟨g, 6, none⟩) (Below.setCell (p := ⟨g, 5, none⟩) (Below.setCell (p := ⟨g, 4, none⟩) (Below.setCell (p := ⟨g, 3, none⟩) (Below.setCell (p := ⟨g, 2, none⟩) h hg v0) hg v1) hg v2) hg v3) hg v4) hg v5)
theorem row6_ {B g : Nat} {W : World} {a : Option Addr} {l : List Value} (h : RowFrom B W a l) (hg : g < B) (v0 v1 v2 v3 v4 v5 : Value) : RowFrom B ((((((W.setCell ⟨g, 2, none⟩ v0).setCell ⟨g, 3, none⟩ v1).setCell ⟨g, 4, none⟩ v2).setCell ⟨g, 5, none⟩ v3).setCell ⟨g, 6, none⟩ v4).setCell ⟨g, 7, none⟩ v5) a l := ((((((h.set_ hg 2 v0).set_ hg 3 v1).set_ hg 4 v2).set_ hg 5 v3).set_ hg 6 v4).set_ hg 7 v5)
theorem cells8 {W : World} {g : Nat} {t : TypeId} {c0 c1 c2 c3 c4 c5 c6 c7 : Value} (h : Blk W g t #[c0, c1, c2, c3, c4, c5, c6, c7]) : W.cell? ⟨g, 0, none⟩ = some c0 ∧ W.cell? ⟨g, 1, none⟩ = some c1 ∧ W.cell? ⟨g, 2, none⟩ = some c2 ∧ W.cell? ⟨g, 3, none⟩ = some c3 ∧ W.cell? ⟨g, 4, none⟩ = some c4 ∧ W.cell? ⟨g, 5, none⟩ = some c5 ∧ W.cell? ⟨g, 6, none⟩ = some c6 ∧ W.cell? ⟨g, 7, none⟩ = some c7 := ⟨h.cell 0, h.cell 1, h.cell 2, h.cell 3, h.cell 4, h.cell 5, h.cell 6, h.cell 7⟩
set_option maxRecDepth 100000 in
set_option maxHeartbeats 4000000 in
theorem told_1 (b : List UInt8) (hb : b.length ≤ 510) (blank : Bool) (w : World) (he : Env w) : Calls Tryz.prog 26 #[.int .u8 1, .string (bs b), .bool blank] w (CmdOut w (toldP 1 b blank).1 (.bool (toldP 1 b blank).2)) := by
  obtain ⟨W0, W1, g6, g8, h⟩ := told_made w he 1
  have HT := Lib.hid h
  have hne : ¬ g6 = g8 := by have := h.lt; omega
  have hne2 : ¬ g8 = g6 := by have := h.lt; omega
  have HEA := Lib.hid (fun W => ceach_any csmall_any ent_csmall b (by omega) W)
  have HLO : Hid (b.map sml = low b) := rfl
  rw [HLO.out] at HEA
  have HDO := Lib.hid (fun W (hW : Env W) => domain_fun b (by omega) W hW.err.1 hW.err.2)
  have HO : Hid (∀ W', Below g6 w W' → CmdOut w (toldP 1 b blank).1 (.bool (toldP 1 b blank).2) (.returned (.tuple #[.agg #[.int .u8 1, .string (bs (low b)), .bool false, .slice none 0 0, .string ⟨#[]⟩, .string ⟨#[]⟩, .bool false, .slice none 0 0], .bool (dB b && !dL b)])) W') := fun W' hb' => by
    rw [h.e6] at hb'
    exact ⟨none, 0, none, 0, rfl, RowFrom.none_ _ _ _, Nat.le_refl _, RowFrom.none_ _ _ _, Nat.le_refl _, hb'⟩
  generalize CmdOut w (toldP 1 b blank).1 (.bool (toldP 1 b blank).2) = Q at *
  clear h he hb HLO
  generalize (dB b && !dL b) = D at *
  generalize bs (low b) = L at *
  generalize bs b = S at *
  go_enter Tryz.func26, Tryz.ntmps26
  go_upto_region 1 with (fail)
  rw [← HT.out.w0, ← HT.out.e6]
  go_upto_region 2 with (fail)
  change Code.wp _ _ _ _ (World.alloc W0 (.cells #[.int .u8 1, .string ⟨#[]⟩, .bool false, .slice none 0 0, .string ⟨#[]⟩, .string ⟨#[]⟩, .bool false, .slice none 0 0] 29))
  rw [← HT.out.w1, ← HT.out.e8]
  go_wp2_with (first | (go_at_call 46; refine (HEA.out W1).mono ?_; rintro e w2 ⟨rfl, hb⟩; have HB2 := Lib.hid hb; clear hb) | (go_at_call 49; refine (HDO.out w2 (HT.out.env w2 HB2.out)).mono ?_; rintro e w3 ⟨rfl, hb⟩; have HB3 := Lib.hid (low_trans HB2.out hb); clear hb; have HZ := Lib.hid (HT.out.zero w3 HB3.out); have HV := Lib.hid (HT.out.verb w3 HB3.out); have HL := Lib.hid (HT.out.low w3 HB3.out); obtain ⟨x0, x1, x2, x3, x4, x5, x6, x7⟩ := cmZero_cells HZ.out; obtain ⟨y0, y1, y2, y3, y4, y5, y6, y7⟩ := cmVerb_cells HV.out; obtain ⟨z0, z1, z2, z3, z4, z5, z6, z7⟩ := froz8 HZ.out; obtain ⟨u0, u1, u2, u3, u4, u5, u6, u7⟩ := froz8 HV.out))
  refine bodyPost_ret (results_cell_tmp rfl _ _ g6 29 _ (0, 0) _ rfl (set8_ (HZ.out.other hne _) _ _ _ _ _ _ _ _) Tryz.underlying29 rfl infoCmd) rfl ?_
  exact HO.out _ (low8_ (HL.out.setCell (p := ⟨g8, 1, none⟩) (Nat.le_of_lt HT.out.lt) _) (Nat.le_refl _) _ _ _ _ _ _ _ _)
set_option maxRecDepth 100000 in
set_option maxHeartbeats 4000000 in
theorem told_2 (b : List UInt8) (hb : b.length ≤ 510) (blank : Bool) (w : World) (he : Env w) : Calls Tryz.prog 26 #[.int .u8 2, .string (bs b), .bool blank] w (CmdOut w (toldP 2 b blank).1 (.bool (toldP 2 b blank).2)) := by
  obtain ⟨W0, W1, g6, g8, h⟩ := told_made w he 2
  have HT := Lib.hid h
  have hne : ¬ g6 = g8 := by have := h.lt; omega
  have hne2 : ¬ g8 = g6 := by have := h.lt; omega
  have HEA := Lib.hid (fun W => ceach_any csmall_any ent_csmall b (by omega) W)
  have HLO : Hid (b.map sml = low b) := rfl
  rw [HLO.out] at HEA
  have HDO := Lib.hid (fun W (hW : Env W) => domain_fun b (by omega) W hW.err.1 hW.err.2)
  have hf : (dB b && !dL b) = fineB b := rfl
  rw [hf] at HDO
  have HBR := Lib.hid (fun W (hW : Env W) => isBracket_any b (by omega) W hW)
  have HO : Hid (∀ W', Below g6 w W' → CmdOut w (toldP 2 b blank).1 (.bool (toldP 2 b blank).2) (.returned (.tuple #[.agg #[.int .u8 2, .string (bs (low b)), .bool false, .slice none 0 0, .string ⟨#[]⟩, .string ⟨#[]⟩, .bool false, .slice none 0 0], .bool (fineB b || brP b)])) W') := fun W' hb' => by
    rw [h.e6] at hb'
    exact ⟨none, 0, none, 0, rfl, RowFrom.none_ _ _ _, Nat.le_refl _, RowFrom.none_ _ _ _, Nat.le_refl _, hb'⟩
  generalize CmdOut w (toldP 2 b blank).1 (.bool (toldP 2 b blank).2) = Q at *
  clear h he hb HLO hf
  generalize brP b = R at *
  generalize fineB b = D at *
  generalize bs (low b) = L at *
  generalize bs b = S at *
  cases D with
  | true =>
    go_enter Tryz.func26, Tryz.ntmps26
    go_upto_region 1 with (fail)
    rw [← HT.out.w0, ← HT.out.e6]
    go_upto_region 2 with (fail)
    change Code.wp _ _ _ _ (World.alloc W0 (.cells #[.int .u8 2, .string ⟨#[]⟩, .bool false, .slice none 0 0, .string ⟨#[]⟩, .string ⟨#[]⟩, .bool false, .slice none 0 0] 29))
    rw [← HT.out.w1, ← HT.out.e8]
    go_wp2_with (first | (go_at_call 46; refine (HEA.out W1).mono ?_; rintro e w2 ⟨rfl, hb⟩; have HB2 := Lib.hid hb; clear hb) | (go_at_call 49; refine (HDO.out w2 (HT.out.env w2 HB2.out)).mono ?_; rintro e w3 ⟨rfl, hb⟩; have HB3 := Lib.hid (low_trans HB2.out hb); clear hb; have HZ := Lib.hid (HT.out.zero w3 HB3.out); have HV := Lib.hid (HT.out.verb w3 HB3.out); have HL := Lib.hid (HT.out.low w3 HB3.out); obtain ⟨x0, x1, x2, x3, x4, x5, x6, x7⟩ := cmZero_cells HZ.out; obtain ⟨y0, y1, y2, y3, y4, y5, y6, y7⟩ := cmVerb_cells HV.out; obtain ⟨z0, z1, z2, z3, z4, z5, z6, z7⟩ := froz8 HZ.out; obtain ⟨u0, u1, u2, u3, u4, u5, u6, u7⟩ := froz8 HV.out))
    refine bodyPost_ret (results_cell_tmp rfl _ _ g6 29 _ (0, 0) _ rfl (set8_ (HZ.out.other hne _) _ _ _ _ _ _ _ _) Tryz.underlying29 rfl infoCmd) rfl ?_
    exact HO.out _ (low8_ (HL.out.setCell (p := ⟨g8, 1, none⟩) (Nat.le_of_lt HT.out.lt) _) (Nat.le_refl _) _ _ _ _ _ _ _ _)
  | false =>
    rw [Bool.false_or] at HO
    go_enter Tryz.func26, Tryz.ntmps26
    go_upto_region 1 with (fail)
    rw [← HT.out.w0, ← HT.out.e6]
    go_upto_region 2 with (fail)
    change Code.wp _ _ _ _ (World.alloc W0 (.cells #[.int .u8 2, .string ⟨#[]⟩, .bool false, .slice none 0 0, .string ⟨#[]⟩, .string ⟨#[]⟩, .bool false, .slice none 0 0] 29))
    rw [← HT.out.w1, ← HT.out.e8]
    go_wp2_with (first | (go_at_call 46; refine (HEA.out W1).mono ?_; rintro e w2 ⟨rfl, hb⟩; have HB2 := Lib.hid hb; clear hb) | (go_at_call 49; refine (HDO.out w2 (HT.out.env w2 HB2.out)).mono ?_; rintro e w3 ⟨rfl, hb⟩; have HB3 := Lib.hid (low_trans HB2.out hb); clear hb) | (go_at_call 50; refine (HBR.out w3 (HT.out.env w3 HB3.out)).mono ?_; rintro e w4 ⟨rfl, hb⟩; have HB4 := Lib.hid (low_trans HB3.out hb); clear hb; have HZ := Lib.hid (HT.out.zero w4 HB4.out); have HV := Lib.hid (HT.out.verb w4 HB4.out); have HL := Lib.hid (HT.out.low w4 HB4.out); obtain ⟨x0, x1, x2, x3, x4, x5, x6, x7⟩ := cmZero_cells HZ.out; obtain ⟨y0, y1, y2, y3, y4, y5, y6, y7⟩ := cmVerb_cells HV.out; obtain ⟨z0, z1, z2, z3, z4, z5, z6, z7⟩ := froz8 HZ.out; obtain ⟨u0, u1, u2, u3, u4, u5, u6, u7⟩ := froz8 HV.out))
    refine bodyPost_ret (results_cell_tmp rfl _ _ g6 29 _ (0, 0) _ rfl (set8_ (HZ.out.other hne _) _ _ _ _ _ _ _ _) Tryz.underlying29 rfl infoCmd) rfl ?_
    exact HO.out _ (low8_ (HL.out.setCell (p := ⟨g8, 1, none⟩) (Nat.le_of_lt HT.out.lt) _) (Nat.le_refl _) _ _ _ _ _ _ _ _)
set_option maxRecDepth 100000 in
set_option maxHeartbeats 4000000 in
theorem told_3 (b : List UInt8) (hb : b.length ≤ 510) (blank : Bool) (w : World) (he : Env w) : Calls Tryz.prog 26 #[.int .u8 3, .string (bs b), .bool blank] w (CmdOut w (toldP 3 b blank).1 (.bool (toldP 3 b blank).2)) := by
  obtain ⟨W0, W1, g6, g8, h⟩ := told_made w he 3
  have HT := Lib.hid h
  have hne : ¬ g6 = g8 := by have := h.lt; omega
  have hne2 : ¬ g8 = g6 := by have := h.lt; omega
  have HSE := Lib.hid (fun W (hW : Env W) => sent_any b fromT (by omega) (by decide) W hW)
  have eT : bs fromT = (⟨#[70, 82, 79, 77, 58]⟩ : ByteArray) := rfl
  rw [eT] at HSE
  have HO : Hid (∀ W' a1 c1 a2 c2, RowFrom g6 W' a1 ((sentP b fromT).1.route.map textV) → (sentP b fromT).1.route.length ≤ c1 → RowFrom g6 W' a2 ((sentP b fromT).2.1.flatMap pmCells) → (sentP b fromT).2.1.length ≤ c2 → Below g6 w W' → CmdOut w (toldP 3 b blank).1 (.bool (toldP 3 b blank).2) (.returned (.tuple #[.agg #[.int .u8 3, .string ⟨#[]⟩, .bool (sentP b fromT).1.null, .slice a1 (sentP b fromT).1.route.length c1, .string (bs (sentP b fromT).1.loc), .string (bs (sentP b fromT).1.dom), .bool (sentP b fromT).1.lit, .slice a2 (sentP b fromT).2.1.length c2], .bool ((sentP b fromT).2.2 && !aloneC (sentP b fromT).1)])) W') := fun W' a1 c1 a2 c2 k1 k2 k3 k4 hb' => by
    rw [h.e6] at hb' k1 k3
    exact ⟨a1, c1, a2, c2, rfl, k1, k2, k3, k4, hb'⟩
  generalize CmdOut w (toldP 3 b blank).1 (.bool (toldP 3 b blank).2) = Q at *
  clear h he hb eT
  generalize sentP b fromT = X at *
  obtain ⟨p, l, r⟩ := X
  generalize bs b = S at *
  go_enter Tryz.func26, Tryz.ntmps26
  go_upto_region 1 with (fail)
  rw [← HT.out.w0, ← HT.out.e6]
  go_upto_region 2 with (fail)
  change Code.wp _ _ _ _ (World.alloc W0 (.cells #[.int .u8 3, .string ⟨#[]⟩, .bool false, .slice none 0 0, .string ⟨#[]⟩, .string ⟨#[]⟩, .bool false, .slice none 0 0] 29))
  rw [← HT.out.w1, ← HT.out.e8]
  go_upto_region 17 with (go_at_call 51; refine (HSE.out W1 (HT.out.env W1 (Below.refl _ _))).mono ?_; rintro e w2 ⟨a2, c2, b2, d2, rfl, hr, hc, hq, hd, hb⟩; unfold paV paCells; have HB2 := Lib.hid hb; have HR2 := Lib.hid hr; have HC2 := Lib.hid hc; have HQ2 := Lib.hid hq; have HD2 := Lib.hid hd; clear hb hr hc hq hd; have HZ := Lib.hid (HT.out.zero w2 HB2.out); have HV := Lib.hid (HT.out.verb w2 HB2.out); have HL := Lib.hid (HT.out.low w2 HB2.out); obtain ⟨x0, x1, x2, x3, x4, x5, x6, x7⟩ := cmZero_cells HZ.out; obtain ⟨y0, y1, y2, y3, y4, y5, y6, y7⟩ := cmVerb_cells HV.out; obtain ⟨z0, z1, z2, z3, z4, z5, z6, z7⟩ := froz8 HZ.out; obtain ⟨u0, u1, u2, u3, u4, u5, u6, u7⟩ := froz8 HV.out)
  change Code.wp _ _ _ _ ((((((w2.setCell ⟨g8, 2, none⟩ (.bool p.null)).setCell ⟨g8, 3, none⟩ (.slice a2 p.route.length c2)).setCell ⟨g8, 4, none⟩ (.string (bs p.loc))).setCell ⟨g8, 5, none⟩ (.string (bs p.dom))).setCell ⟨g8, 6, none⟩ (.bool p.lit)).setCell ⟨g8, 7, none⟩ (.slice b2 l.length d2))
  obtain ⟨W3, hW3⟩ : ∃ W3, W3 = ((((((w2.setCell ⟨g8, 2, none⟩ (.bool p.null)).setCell ⟨g8, 3, none⟩ (.slice a2 p.route.length c2)).setCell ⟨g8, 4, none⟩ (.string (bs p.loc))).setCell ⟨g8, 5, none⟩ (.string (bs p.dom))).setCell ⟨g8, 6, none⟩ (.bool p.lit)).setCell ⟨g8, 7, none⟩ (.slice b2 l.length d2)) := ⟨_, rfl⟩
  rw [← hW3]
  have HV3 : Hid (Blk W3 g8 29 #[.int .u8 3, .string ⟨#[]⟩, .bool p.null, .slice a2 p.route.length c2, .string (bs p.loc), .string (bs p.dom), .bool p.lit, .slice b2 l.length d2]) := by rw [hW3]; exact set6_ HV.out _ _ _ _ _ _
  have HZ3 : Hid (Blk W3 g6 29 cmZero) := by rw [hW3]; exact (((((HZ.out.other hne _).other hne _).other hne _).other hne _).other hne _).other hne _
  have HL3 : Hid (Below g6 w W3) := by rw [hW3]; exact low6_ HL.out (Nat.le_of_lt HT.out.lt) _ _ _ _ _ _
  have HR3 : Hid (RowFrom (g6 + 1) W3 a2 (p.route.map textV)) := by rw [hW3]; exact (row6_ HR2.out (by rw [← HT.out.size]; exact Nat.lt_succ_self _) _ _ _ _ _ _).mono (by have h1 := HT.out.lt; have h2 := HT.out.size; omega)
  have HQ3 : Hid (RowFrom (g6 + 1) W3 b2 (l.flatMap pmCells)) := by rw [hW3]; exact (row6_ HQ2.out (by rw [← HT.out.size]; exact Nat.lt_succ_self _) _ _ _ _ _ _).mono (by have h1 := HT.out.lt; have h2 := HT.out.size; omega)
  have HG3 : Hid (g8 < W3.heap.size) := HV3.out.lt
  clear hW3 HZ HV HL HSE x0 x1 x2 x3 x4 x5 x6 x7 y0 y1 y2 y3 y4 y5 y6 y7 z0 z1 z2 z3 z4 z5 z6 z7 u0 u1 u2 u3 u4 u5 u6 u7
  cases r with
  | false =>
    obtain ⟨x0, x1, x2, x3, x4, x5, x6, x7⟩ := cmZero_cells HZ3.out; obtain ⟨z0, z1, z2, z3, z4, z5, z6, z7⟩ := froz8 HZ3.out; obtain ⟨y0, y1, y2, y3, y4, y5, y6, y7⟩ := cells8 HV3.out
    go_wp2
    refine bodyPost_ret (results_cell_tmp rfl _ _ g6 29 _ (0, 0) _ rfl (set8_ HZ3.out _ _ _ _ _ _ _ _) Tryz.underlying29 rfl infoCmd) rfl ?_
    exact HO.out _ a2 c2 b2 d2 ((row8_ HR3.out (Nat.lt_succ_self _) _ _ _ _ _ _ _ _).mono (Nat.le_succ _)) HC2.out ((row8_ HQ3.out (Nat.lt_succ_self _) _ _ _ _ _ _ _ _).mono (Nat.le_succ _)) HD2.out (low8_ HL3.out (Nat.le_refl _) _ _ _ _ _ _ _ _)
  | true =>
    rw [Bool.true_and] at HO
    obtain ⟨y0, y1, y2, y3, y4, y5, y6, y7⟩ := cells8 HV3.out
    have HAL := Lib.hid (cIsAlone_any p a2 c2 W3)
    unfold paV paCells at HAL
    generalize aloneC p = A at *
    go_wp2_with (go_at_call 52; refine HAL.out.mono ?_; rintro e w4 ⟨rfl, hb⟩; have HV4 := Lib.hid (HV3.out.below hb HG3.out); have HZ4 := Lib.hid (HZ3.out.below hb (Nat.lt_trans HT.out.lt HG3.out)); have HL4 := Lib.hid (HL3.out.trans (hb.mono (Nat.le_of_lt (Nat.lt_trans HT.out.lt HG3.out)))); have HR4 := Lib.hid (HR3.out.below hb); have HQ4 := Lib.hid (HQ3.out.below hb); clear hb y0 y1 y2 y3 y4 y5 y6 y7; obtain ⟨x0, x1, x2, x3, x4, x5, x6, x7⟩ := cmZero_cells HZ4.out; obtain ⟨z0, z1, z2, z3, z4, z5, z6, z7⟩ := froz8 HZ4.out; obtain ⟨y0, y1, y2, y3, y4, y5, y6, y7⟩ := cells8 HV4.out)
    refine bodyPost_ret (results_cell_tmp rfl _ _ g6 29 _ (0, 0) _ rfl (set8_ HZ4.out _ _ _ _ _ _ _ _) Tryz.underlying29 rfl infoCmd) rfl ?_
    exact HO.out _ a2 c2 b2 d2 ((row8_ HR4.out (Nat.lt_succ_self _) _ _ _ _ _ _ _ _).mono (Nat.le_succ _)) HC2.out ((row8_ HQ4.out (Nat.lt_succ_self _) _ _ _ _ _ _ _ _).mono (Nat.le_succ _)) HD2.out (low8_ HL4.out (Nat.le_refl _) _ _ _ _ _ _ _ _)
set_option maxRecDepth 100000 in
set_option maxHeartbeats 4000000 in
theorem told_4 (b : List UInt8) (hb : b.length ≤ 510) (blank : Bool) (w : World) (he : Env w) : Calls Tryz.prog 26 #[.int .u8 4, .string (bs b), .bool blank] w (CmdOut w (toldP 4 b blank).1 (.bool (toldP 4 b blank).2)) := by
  obtain ⟨W0, W1, g6, g8, h⟩ := told_made w he 4
  have HT := Lib.hid h
  have hne : ¬ g6 = g8 := by have := h.lt; omega
  have hne2 : ¬ g8 = g6 := by have := h.lt; omega
  have HSE := Lib.hid (fun W (hW : Env W) => sent_any b toT (by omega) (by decide) W hW)
  have eT : bs toT = (⟨#[84, 79, 58]⟩ : ByteArray) := rfl
  rw [eT] at HSE
  have HO : Hid (∀ W' a1 c1 a2 c2, RowFrom g6 W' a1 ((sentP b toT).1.route.map textV) → (sentP b toT).1.route.length ≤ c1 → RowFrom g6 W' a2 ((sentP b toT).2.1.flatMap pmCells) → (sentP b toT).2.1.length ≤ c2 → Below g6 w W' → CmdOut w (toldP 4 b blank).1 (.bool (toldP 4 b blank).2) (.returned (.tuple #[.agg #[.int .u8 4, .string ⟨#[]⟩, .bool (sentP b toT).1.null, .slice a1 (sentP b toT).1.route.length c1, .string (bs (sentP b toT).1.loc), .string (bs (sentP b toT).1.dom), .bool (sentP b toT).1.lit, .slice a2 (sentP b toT).2.1.length c2], .bool ((sentP b toT).2.2 && !(sentP b toT).1.null)])) W') := fun W' a1 c1 a2 c2 k1 k2 k3 k4 hb' => by
    rw [h.e6] at hb' k1 k3
    exact ⟨a1, c1, a2, c2, rfl, k1, k2, k3, k4, hb'⟩
  generalize CmdOut w (toldP 4 b blank).1 (.bool (toldP 4 b blank).2) = Q at *
  clear h he hb eT
  generalize sentP b toT = X at *
  obtain ⟨p, l, r⟩ := X
  generalize bs b = S at *
  go_enter Tryz.func26, Tryz.ntmps26
  go_upto_region 1 with (fail)
  rw [← HT.out.w0, ← HT.out.e6]
  go_upto_region 2 with (fail)
  change Code.wp _ _ _ _ (World.alloc W0 (.cells #[.int .u8 4, .string ⟨#[]⟩, .bool false, .slice none 0 0, .string ⟨#[]⟩, .string ⟨#[]⟩, .bool false, .slice none 0 0] 29))
  rw [← HT.out.w1, ← HT.out.e8]
  go_upto_region 19 with (go_at_call 51; refine (HSE.out W1 (HT.out.env W1 (Below.refl _ _))).mono ?_; rintro e w2 ⟨a2, c2, b2, d2, rfl, hr, hc, hq, hd, hb⟩; unfold paV paCells; have HB2 := Lib.hid hb; have HR2 := Lib.hid hr; have HC2 := Lib.hid hc; have HQ2 := Lib.hid hq; have HD2 := Lib.hid hd; clear hb hr hc hq hd; have HZ := Lib.hid (HT.out.zero w2 HB2.out); have HV := Lib.hid (HT.out.verb w2 HB2.out); have HL := Lib.hid (HT.out.low w2 HB2.out); obtain ⟨x0, x1, x2, x3, x4, x5, x6, x7⟩ := cmZero_cells HZ.out; obtain ⟨y0, y1, y2, y3, y4, y5, y6, y7⟩ := cmVerb_cells HV.out; obtain ⟨z0, z1, z2, z3, z4, z5, z6, z7⟩ := froz8 HZ.out; obtain ⟨u0, u1, u2, u3, u4, u5, u6, u7⟩ := froz8 HV.out)
  change Code.wp _ _ _ _ ((((((w2.setCell ⟨g8, 2, none⟩ (.bool p.null)).setCell ⟨g8, 3, none⟩ (.slice a2 p.route.length c2)).setCell ⟨g8, 4, none⟩ (.string (bs p.loc))).setCell ⟨g8, 5, none⟩ (.string (bs p.dom))).setCell ⟨g8, 6, none⟩ (.bool p.lit)).setCell ⟨g8, 7, none⟩ (.slice b2 l.length d2))
  obtain ⟨W3, hW3⟩ : ∃ W3, W3 = ((((((w2.setCell ⟨g8, 2, none⟩ (.bool p.null)).setCell ⟨g8, 3, none⟩ (.slice a2 p.route.length c2)).setCell ⟨g8, 4, none⟩ (.string (bs p.loc))).setCell ⟨g8, 5, none⟩ (.string (bs p.dom))).setCell ⟨g8, 6, none⟩ (.bool p.lit)).setCell ⟨g8, 7, none⟩ (.slice b2 l.length d2)) := ⟨_, rfl⟩
  rw [← hW3]
  have HV3 : Hid (Blk W3 g8 29 #[.int .u8 4, .string ⟨#[]⟩, .bool p.null, .slice a2 p.route.length c2, .string (bs p.loc), .string (bs p.dom), .bool p.lit, .slice b2 l.length d2]) := by rw [hW3]; exact set6_ HV.out _ _ _ _ _ _
  have HZ3 : Hid (Blk W3 g6 29 cmZero) := by rw [hW3]; exact (((((HZ.out.other hne _).other hne _).other hne _).other hne _).other hne _).other hne _
  have HL3 : Hid (Below g6 w W3) := by rw [hW3]; exact low6_ HL.out (Nat.le_of_lt HT.out.lt) _ _ _ _ _ _
  have HR3 : Hid (RowFrom (g6 + 1) W3 a2 (p.route.map textV)) := by rw [hW3]; exact (row6_ HR2.out (by rw [← HT.out.size]; exact Nat.lt_succ_self _) _ _ _ _ _ _).mono (by have h1 := HT.out.lt; have h2 := HT.out.size; omega)
  have HQ3 : Hid (RowFrom (g6 + 1) W3 b2 (l.flatMap pmCells)) := by rw [hW3]; exact (row6_ HQ2.out (by rw [← HT.out.size]; exact Nat.lt_succ_self _) _ _ _ _ _ _).mono (by have h1 := HT.out.lt; have h2 := HT.out.size; omega)
  have HG3 : Hid (g8 < W3.heap.size) := HV3.out.lt
  clear hW3 HZ HV HL HSE x0 x1 x2 x3 x4 x5 x6 x7 y0 y1 y2 y3 y4 y5 y6 y7 z0 z1 z2 z3 z4 z5 z6 z7 u0 u1 u2 u3 u4 u5 u6 u7
  cases r with
  | false =>
    obtain ⟨x0, x1, x2, x3, x4, x5, x6, x7⟩ := cmZero_cells HZ3.out; obtain ⟨z0, z1, z2, z3, z4, z5, z6, z7⟩ := froz8 HZ3.out; obtain ⟨y0, y1, y2, y3, y4, y5, y6, y7⟩ := cells8 HV3.out
    go_wp2
    refine bodyPost_ret (results_cell_tmp rfl _ _ g6 29 _ (0, 0) _ rfl (set8_ HZ3.out _ _ _ _ _ _ _ _) Tryz.underlying29 rfl infoCmd) rfl ?_
    exact HO.out _ a2 c2 b2 d2 ((row8_ HR3.out (Nat.lt_succ_self _) _ _ _ _ _ _ _ _).mono (Nat.le_succ _)) HC2.out ((row8_ HQ3.out (Nat.lt_succ_self _) _ _ _ _ _ _ _ _).mono (Nat.le_succ _)) HD2.out (low8_ HL3.out (Nat.le_refl _) _ _ _ _ _ _ _ _)
  | true =>
    rw [Bool.true_and] at HO
    obtain ⟨x0, x1, x2, x3, x4, x5, x6, x7⟩ := cmZero_cells HZ3.out; obtain ⟨z0, z1, z2, z3, z4, z5, z6, z7⟩ := froz8 HZ3.out; obtain ⟨y0, y1, y2, y3, y4, y5, y6, y7⟩ := cells8 HV3.out
    go_wp2
    refine bodyPost_ret (results_cell_tmp rfl _ _ g6 29 _ (0, 0) _ rfl (set8_ HZ3.out _ _ _ _ _ _ _ _) Tryz.underlying29 rfl infoCmd) rfl ?_
    exact HO.out _ a2 c2 b2 d2 ((row8_ HR3.out (Nat.lt_succ_self _) _ _ _ _ _ _ _ _).mono (Nat.le_succ _)) HC2.out ((row8_ HQ3.out (Nat.lt_succ_self _) _ _ _ _ _ _ _ _).mono (Nat.le_succ _)) HD2.out (low8_ HL3.out (Nat.le_refl _) _ _ _ _ _ _ _ _)
set_option maxRecDepth 100000 in
set_option maxHeartbeats 4000000 in
theorem told_5 (b : List UInt8) (_hb : b.length ≤ 510) (blank : Bool) (w : World) (he : Env w) : Calls Tryz.prog 26 #[.int .u8 5, .string (bs b), .bool blank] w (CmdOut w (toldP 5 b blank).1 (.bool (toldP 5 b blank).2)) := by
  obtain ⟨W0, W1, g6, g8, h⟩ := told_made w he 5
  have HT := Lib.hid h
  have hne : ¬ g6 = g8 := by have := h.lt; omega
  have hne2 : ¬ g8 = g6 := by have := h.lt; omega
  have HO : Hid (∀ W', Below g6 w W' → CmdOut w (toldP 5 b blank).1 (.bool (toldP 5 b blank).2) (.returned (.tuple #[.agg #[.int .u8 5, .string ⟨#[]⟩, .bool false, .slice none 0 0, .string ⟨#[]⟩, .string ⟨#[]⟩, .bool false, .slice none 0 0], .bool (!blank)])) W') := fun W' hb' => by
    rw [h.e6] at hb'
    exact ⟨none, 0, none, 0, rfl, RowFrom.none_ _ _ _, Nat.le_refl _, RowFrom.none_ _ _ _, Nat.le_refl _, hb'⟩
  generalize CmdOut w (toldP 5 b blank).1 (.bool (toldP 5 b blank).2) = Q at *
  clear h he _hb
  generalize bs b = S at *
  have HZ := Lib.hid (HT.out.zero W1 (Below.refl _ _))
  have HV := Lib.hid (HT.out.verb W1 (Below.refl _ _))
  have HL := Lib.hid (HT.out.low W1 (Below.refl _ _))
  obtain ⟨x0, x1, x2, x3, x4, x5, x6, x7⟩ := cmZero_cells HZ.out
  obtain ⟨y0, y1, y2, y3, y4, y5, y6, y7⟩ := cmVerb_cells HV.out
  obtain ⟨z0, z1, z2, z3, z4, z5, z6, z7⟩ := froz8 HZ.out
  obtain ⟨u0, u1, u2, u3, u4, u5, u6, u7⟩ := froz8 HV.out
  go_enter Tryz.func26, Tryz.ntmps26
  go_upto_region 1 with (fail)
  rw [← HT.out.w0, ← HT.out.e6]
  go_upto_region 2 with (fail)
  change Code.wp _ _ _ _ (World.alloc W0 (.cells #[.int .u8 5, .string ⟨#[]⟩, .bool false, .slice none 0 0, .string ⟨#[]⟩, .string ⟨#[]⟩, .bool false, .slice none 0 0] 29))
  rw [← HT.out.w1, ← HT.out.e8]
  go_wp2
  refine bodyPost_ret (results_cell_tmp rfl _ _ g6 29 _ (0, 0) _ rfl (set8_ HZ.out _ _ _ _ _ _ _ _) Tryz.underlying29 rfl infoCmd) rfl ?_
  exact HO.out _ (low8_ HL.out (Nat.le_refl _) _ _ _ _ _ _ _ _)
set_option maxRecDepth 100000 in
set_option maxHeartbeats 4000000 in
theorem told_6 (b : List UInt8) (_hb : b.length ≤ 510) (blank : Bool) (w : World) (he : Env w) : Calls Tryz.prog 26 #[.int .u8 6, .string (bs b), .bool blank] w (CmdOut w (toldP 6 b blank).1 (.bool (toldP 6 b blank).2)) := by
  obtain ⟨W0, W1, g6, g8, h⟩ := told_made w he 6
  have HT := Lib.hid h
  have hne : ¬ g6 = g8 := by have := h.lt; omega
  have hne2 : ¬ g8 = g6 := by have := h.lt; omega
  have HO : Hid (∀ W', Below g6 w W' → CmdOut w (toldP 6 b blank).1 (.bool (toldP 6 b blank).2) (.returned (.tuple #[.agg #[.int .u8 6, .string ⟨#[]⟩, .bool false, .slice none 0 0, .string ⟨#[]⟩, .string ⟨#[]⟩, .bool false, .slice none 0 0], .bool (!blank)])) W') := fun W' hb' => by
    rw [h.e6] at hb'
    exact ⟨none, 0, none, 0, rfl, RowFrom.none_ _ _ _, Nat.le_refl _, RowFrom.none_ _ _ _, Nat.le_refl _, hb'⟩
  generalize CmdOut w (toldP 6 b blank).1 (.bool (toldP 6 b blank).2) = Q at *
  clear h he _hb
  generalize bs b = S at *
  have HZ := Lib.hid (HT.out.zero W1 (Below.refl _ _))
  have HV := Lib.hid (HT.out.verb W1 (Below.refl _ _))
  have HL := Lib.hid (HT.out.low W1 (Below.refl _ _))
  obtain ⟨x0, x1, x2, x3, x4, x5, x6, x7⟩ := cmZero_cells HZ.out
  obtain ⟨y0, y1, y2, y3, y4, y5, y6, y7⟩ := cmVerb_cells HV.out
  obtain ⟨z0, z1, z2, z3, z4, z5, z6, z7⟩ := froz8 HZ.out
  obtain ⟨u0, u1, u2, u3, u4, u5, u6, u7⟩ := froz8 HV.out
  go_enter Tryz.func26, Tryz.ntmps26
  go_upto_region 1 with (fail)
  rw [← HT.out.w0, ← HT.out.e6]
  go_upto_region 2 with (fail)
  change Code.wp _ _ _ _ (World.alloc W0 (.cells #[.int .u8 6, .string ⟨#[]⟩, .bool false, .slice none 0 0, .string ⟨#[]⟩, .string ⟨#[]⟩, .bool false, .slice none 0 0] 29))
  rw [← HT.out.w1, ← HT.out.e8]
  go_wp2
  refine bodyPost_ret (results_cell_tmp rfl _ _ g6 29 _ (0, 0) _ rfl (set8_ HZ.out _ _ _ _ _ _ _ _) Tryz.underlying29 rfl infoCmd) rfl ?_
  exact HO.out _ (low8_ HL.out (Nat.le_refl _) _ _ _ _ _ _ _ _)
set_option maxRecDepth 100000 in
set_option maxHeartbeats 4000000 in
theorem told_11 (b : List UInt8) (_hb : b.length ≤ 510) (blank : Bool) (w : World) (he : Env w) : Calls Tryz.prog 26 #[.int .u8 11, .string (bs b), .bool blank] w (CmdOut w (toldP 11 b blank).1 (.bool (toldP 11 b blank).2)) := by
  obtain ⟨W0, W1, g6, g8, h⟩ := told_made w he 11
  have HT := Lib.hid h
  have hne : ¬ g6 = g8 := by have := h.lt; omega
  have hne2 : ¬ g8 = g6 := by have := h.lt; omega
  have HO : Hid (∀ W', Below g6 w W' → CmdOut w (toldP 11 b blank).1 (.bool (toldP 11 b blank).2) (.returned (.tuple #[.agg #[.int .u8 11, .string ⟨#[]⟩, .bool false, .slice none 0 0, .string ⟨#[]⟩, .string ⟨#[]⟩, .bool false, .slice none 0 0], .bool (!blank)])) W') := fun W' hb' => by
    rw [h.e6] at hb'
    exact ⟨none, 0, none, 0, rfl, RowFrom.none_ _ _ _, Nat.le_refl _, RowFrom.none_ _ _ _, Nat.le_refl _, hb'⟩
  generalize CmdOut w (toldP 11 b blank).1 (.bool (toldP 11 b blank).2) = Q at *
  clear h he _hb
  generalize bs b = S at *
  have HZ := Lib.hid (HT.out.zero W1 (Below.refl _ _))
  have HV := Lib.hid (HT.out.verb W1 (Below.refl _ _))
  have HL := Lib.hid (HT.out.low W1 (Below.refl _ _))
  obtain ⟨x0, x1, x2, x3, x4, x5, x6, x7⟩ := cmZero_cells HZ.out
  obtain ⟨y0, y1, y2, y3, y4, y5, y6, y7⟩ := cmVerb_cells HV.out
  obtain ⟨z0, z1, z2, z3, z4, z5, z6, z7⟩ := froz8 HZ.out
  obtain ⟨u0, u1, u2, u3, u4, u5, u6, u7⟩ := froz8 HV.out
  go_enter Tryz.func26, Tryz.ntmps26
  go_upto_region 1 with (fail)
  rw [← HT.out.w0, ← HT.out.e6]
  go_upto_region 2 with (fail)
  change Code.wp _ _ _ _ (World.alloc W0 (.cells #[.int .u8 11, .string ⟨#[]⟩, .bool false, .slice none 0 0, .string ⟨#[]⟩, .string ⟨#[]⟩, .bool false, .slice none 0 0] 29))
  rw [← HT.out.w1, ← HT.out.e8]
  go_wp2
  refine bodyPost_ret (results_cell_tmp rfl _ _ g6 29 _ (0, 0) _ rfl (set8_ HZ.out _ _ _ _ _ _ _ _) Tryz.underlying29 rfl infoCmd) rfl ?_
  exact HO.out _ (low8_ HL.out (Nat.le_refl _) _ _ _ _ _ _ _ _)
set_option maxRecDepth 100000 in
set_option maxHeartbeats 4000000 in
theorem told_7 (b : List UInt8) (hb : b.length ≤ 510) (blank : Bool) (w : World) (he : Env w) : Calls Tryz.prog 26 #[.int .u8 7, .string (bs b), .bool blank] w (CmdOut w (toldP 7 b blank).1 (.bool (toldP 7 b blank).2)) := by
  obtain ⟨W0, W1, g6, g8, h⟩ := told_made w he 7
  have HT := Lib.hid h
  have hne : ¬ g6 = g8 := by have := h.lt; omega
  have hne2 : ¬ g8 = g6 := by have := h.lt; omega
  have HCL := Lib.hid (fun W => clone_any b (by omega) W)
  have HSO := Lib.hid (fun W => some_any isShown_any ent_cshown b (by omega) W)
  have HO : Hid (∀ W', Below g6 w W' → CmdOut w (toldP 7 b blank).1 (.bool (toldP 7 b blank).2) (.returned (.tuple #[.agg #[.int .u8 7, .string (bs b), .bool false, .slice none 0 0, .string ⟨#[]⟩, .string ⟨#[]⟩, .bool false, .slice none 0 0], .bool (someP shB b)])) W') := fun W' hb' => by
    rw [h.e6] at hb'
    exact ⟨none, 0, none, 0, rfl, RowFrom.none_ _ _ _, Nat.le_refl _, RowFrom.none_ _ _ _, Nat.le_refl _, hb'⟩
  generalize CmdOut w (toldP 7 b blank).1 (.bool (toldP 7 b blank).2) = Q at *
  clear h he hb
  generalize someP shB b = R at *
  generalize bs b = S at *
  go_enter Tryz.func26, Tryz.ntmps26
  go_upto_region 1 with (fail)
  rw [← HT.out.w0, ← HT.out.e6]
  go_upto_region 2 with (fail)
  change Code.wp _ _ _ _ (World.alloc W0 (.cells #[.int .u8 7, .string ⟨#[]⟩, .bool false, .slice none 0 0, .string ⟨#[]⟩, .string ⟨#[]⟩, .bool false, .slice none 0 0] 29))
  rw [← HT.out.w1, ← HT.out.e8]
  go_wp2_with (first | (go_at_call 53; refine (HCL.out W1).mono ?_; rintro e w2 ⟨rfl, hb⟩; have HB2 := Lib.hid hb; clear hb; have HZ := Lib.hid (HT.out.zero w2 HB2.out); have HV := Lib.hid (HT.out.verb w2 HB2.out); have HL := Lib.hid (HT.out.low w2 HB2.out); obtain ⟨x0, x1, x2, x3, x4, x5, x6, x7⟩ := cmZero_cells HZ.out; obtain ⟨y0, y1, y2, y3, y4, y5, y6, y7⟩ := cmVerb_cells HV.out; obtain ⟨z0, z1, z2, z3, z4, z5, z6, z7⟩ := froz8 HZ.out; obtain ⟨u0, u1, u2, u3, u4, u5, u6, u7⟩ := froz8 HV.out) | (go_at_call 54; refine (HSO.out _).mono ?_; rintro e w3 ⟨rfl, rfl⟩))
  refine bodyPost_ret (results_cell_tmp rfl _ _ g6 29 _ (0, 0) _ rfl (set8_ (HZ.out.other hne _) _ _ _ _ _ _ _ _) Tryz.underlying29 rfl infoCmd) rfl ?_
  exact HO.out _ (low8_ (HL.out.setCell (p := ⟨g8, 1, none⟩) (Nat.le_of_lt HT.out.lt) _) (Nat.le_refl _) _ _ _ _ _ _ _ _)
set_option maxRecDepth 100000 in
set_option maxHeartbeats 4000000 in
theorem told_8 (b : List UInt8) (hb : b.length ≤ 510) (blank : Bool) (w : World) (he : Env w) : Calls Tryz.prog 26 #[.int .u8 8, .string (bs b), .bool blank] w (CmdOut w (toldP 8 b blank).1 (.bool (toldP 8 b blank).2)) := by
  obtain ⟨W0, W1, g6, g8, h⟩ := told_made w he 8
  have HT := Lib.hid h
  have hne : ¬ g6 = g8 := by have := h.lt; omega
  have hne2 : ¬ g8 = g6 := by have := h.lt; omega
  have HCL := Lib.hid (fun W => clone_any b (by omega) W)
  have HSO := Lib.hid (fun W => some_any isShown_any ent_cshown b (by omega) W)
  have HO : Hid (∀ W', Below g6 w W' → CmdOut w (toldP 8 b blank).1 (.bool (toldP 8 b blank).2) (.returned (.tuple #[.agg #[.int .u8 8, .string (bs b), .bool false, .slice none 0 0, .string ⟨#[]⟩, .string ⟨#[]⟩, .bool false, .slice none 0 0], .bool (someP shB b)])) W') := fun W' hb' => by
    rw [h.e6] at hb'
    exact ⟨none, 0, none, 0, rfl, RowFrom.none_ _ _ _, Nat.le_refl _, RowFrom.none_ _ _ _, Nat.le_refl _, hb'⟩
  generalize CmdOut w (toldP 8 b blank).1 (.bool (toldP 8 b blank).2) = Q at *
  clear h he hb
  generalize someP shB b = R at *
  generalize bs b = S at *
  go_enter Tryz.func26, Tryz.ntmps26
  go_upto_region 1 with (fail)
  rw [← HT.out.w0, ← HT.out.e6]
  go_upto_region 2 with (fail)
  change Code.wp _ _ _ _ (World.alloc W0 (.cells #[.int .u8 8, .string ⟨#[]⟩, .bool false, .slice none 0 0, .string ⟨#[]⟩, .string ⟨#[]⟩, .bool false, .slice none 0 0] 29))
  rw [← HT.out.w1, ← HT.out.e8]
  go_wp2_with (first | (go_at_call 53; refine (HCL.out W1).mono ?_; rintro e w2 ⟨rfl, hb⟩; have HB2 := Lib.hid hb; clear hb; have HZ := Lib.hid (HT.out.zero w2 HB2.out); have HV := Lib.hid (HT.out.verb w2 HB2.out); have HL := Lib.hid (HT.out.low w2 HB2.out); obtain ⟨x0, x1, x2, x3, x4, x5, x6, x7⟩ := cmZero_cells HZ.out; obtain ⟨y0, y1, y2, y3, y4, y5, y6, y7⟩ := cmVerb_cells HV.out; obtain ⟨z0, z1, z2, z3, z4, z5, z6, z7⟩ := froz8 HZ.out; obtain ⟨u0, u1, u2, u3, u4, u5, u6, u7⟩ := froz8 HV.out) | (go_at_call 54; refine (HSO.out _).mono ?_; rintro e w3 ⟨rfl, rfl⟩))
  refine bodyPost_ret (results_cell_tmp rfl _ _ g6 29 _ (0, 0) _ rfl (set8_ (HZ.out.other hne _) _ _ _ _ _ _ _ _) Tryz.underlying29 rfl infoCmd) rfl ?_
  exact HO.out _ (low8_ (HL.out.setCell (p := ⟨g8, 1, none⟩) (Nat.le_of_lt HT.out.lt) _) (Nat.le_refl _) _ _ _ _ _ _ _ _)
set_option maxRecDepth 100000 in
set_option maxHeartbeats 4000000 in
theorem told_9_yes (b : List UInt8) (hb : b.length ≤ 510) (w : World) (he : Env w) : Calls Tryz.prog 26 #[.int .u8 9, .string (bs b), .bool true] w (CmdOut w (toldP 9 b true).1 (.bool (toldP 9 b true).2)) := by
  obtain ⟨W0, W1, g6, g8, h⟩ := told_made w he 9
  have HT := Lib.hid h
  have hne : ¬ g6 = g8 := by have := h.lt; omega
  have hne2 : ¬ g8 = g6 := by have := h.lt; omega
  have HCL := Lib.hid (fun W => clone_any b (by omega) W)
  have HSO := Lib.hid (fun W => some_any isShown_any ent_cshown b (by omega) W)
  have HO : Hid (∀ W', Below g6 w W' → CmdOut w (toldP 9 b true).1 (.bool (toldP 9 b true).2) (.returned (.tuple #[.agg #[.int .u8 9, .string (bs b), .bool false, .slice none 0 0, .string ⟨#[]⟩, .string ⟨#[]⟩, .bool false, .slice none 0 0], .bool (someP shB b)])) W') := fun W' hb' => by
    rw [h.e6] at hb'
    exact ⟨none, 0, none, 0, rfl, RowFrom.none_ _ _ _, Nat.le_refl _, RowFrom.none_ _ _ _, Nat.le_refl _, hb'⟩
  generalize CmdOut w (toldP 9 b true).1 (.bool (toldP 9 b true).2) = Q at *
  clear h he hb
  generalize someP shB b = R at *
  generalize bs b = S at *
  go_enter Tryz.func26, Tryz.ntmps26
  go_upto_region 1 with (fail)
  rw [← HT.out.w0, ← HT.out.e6]
  go_upto_region 2 with (fail)
  change Code.wp _ _ _ _ (World.alloc W0 (.cells #[.int .u8 9, .string ⟨#[]⟩, .bool false, .slice none 0 0, .string ⟨#[]⟩, .string ⟨#[]⟩, .bool false, .slice none 0 0] 29))
  rw [← HT.out.w1, ← HT.out.e8]
  go_wp2_with (first | (go_at_call 53; refine (HCL.out W1).mono ?_; rintro e w2 ⟨rfl, hb⟩; have HB2 := Lib.hid hb; clear hb; have HZ := Lib.hid (HT.out.zero w2 HB2.out); have HV := Lib.hid (HT.out.verb w2 HB2.out); have HL := Lib.hid (HT.out.low w2 HB2.out); obtain ⟨x0, x1, x2, x3, x4, x5, x6, x7⟩ := cmZero_cells HZ.out; obtain ⟨y0, y1, y2, y3, y4, y5, y6, y7⟩ := cmVerb_cells HV.out; obtain ⟨z0, z1, z2, z3, z4, z5, z6, z7⟩ := froz8 HZ.out; obtain ⟨u0, u1, u2, u3, u4, u5, u6, u7⟩ := froz8 HV.out) | (go_at_call 54; refine (HSO.out _).mono ?_; rintro e w3 ⟨rfl, rfl⟩))
  refine bodyPost_ret (results_cell_tmp rfl _ _ g6 29 _ (0, 0) _ rfl (set8_ (HZ.out.other hne _) _ _ _ _ _ _ _ _) Tryz.underlying29 rfl infoCmd) rfl ?_
  exact HO.out _ (low8_ (HL.out.setCell (p := ⟨g8, 1, none⟩) (Nat.le_of_lt HT.out.lt) _) (Nat.le_refl _) _ _ _ _ _ _ _ _)
set_option maxRecDepth 100000 in
set_option maxHeartbeats 4000000 in
theorem told_9_no (b : List UInt8) (_hb : b.length ≤ 510) (w : World) (he : Env w) : Calls Tryz.prog 26 #[.int .u8 9, .string (bs b), .bool false] w (CmdOut w (toldP 9 b false).1 (.bool (toldP 9 b false).2)) := by
  obtain ⟨W0, W1, g6, g8, h⟩ := told_made w he 9
  have HT := Lib.hid h
  have hne : ¬ g6 = g8 := by have := h.lt; omega
  have hne2 : ¬ g8 = g6 := by have := h.lt; omega
  have HO : Hid (∀ W', Below g6 w W' → CmdOut w (toldP 9 b false).1 (.bool (toldP 9 b false).2) (.returned (.tuple #[.agg #[.int .u8 9, .string ⟨#[]⟩, .bool false, .slice none 0 0, .string ⟨#[]⟩, .string ⟨#[]⟩, .bool false, .slice none 0 0], .bool true])) W') := fun W' hb' => by
    rw [h.e6] at hb'
    exact ⟨none, 0, none, 0, rfl, RowFrom.none_ _ _ _, Nat.le_refl _, RowFrom.none_ _ _ _, Nat.le_refl _, hb'⟩
  generalize CmdOut w (toldP 9 b false).1 (.bool (toldP 9 b false).2) = Q at *
  clear h he _hb
  generalize bs b = S at *
  have HZ := Lib.hid (HT.out.zero W1 (Below.refl _ _))
  have HV := Lib.hid (HT.out.verb W1 (Below.refl _ _))
  have HL := Lib.hid (HT.out.low W1 (Below.refl _ _))
  obtain ⟨x0, x1, x2, x3, x4, x5, x6, x7⟩ := cmZero_cells HZ.out
  obtain ⟨y0, y1, y2, y3, y4, y5, y6, y7⟩ := cmVerb_cells HV.out
  obtain ⟨z0, z1, z2, z3, z4, z5, z6, z7⟩ := froz8 HZ.out
  obtain ⟨u0, u1, u2, u3, u4, u5, u6, u7⟩ := froz8 HV.out
  go_enter Tryz.func26, Tryz.ntmps26
  go_upto_region 1 with (fail)
  rw [← HT.out.w0, ← HT.out.e6]
  go_upto_region 2 with (fail)
  change Code.wp _ _ _ _ (World.alloc W0 (.cells #[.int .u8 9, .string ⟨#[]⟩, .bool false, .slice none 0 0, .string ⟨#[]⟩, .string ⟨#[]⟩, .bool false, .slice none 0 0] 29))
  rw [← HT.out.w1, ← HT.out.e8]
  go_wp2
  refine bodyPost_ret (results_cell_tmp rfl _ _ g6 29 _ (0, 0) _ rfl (set8_ HZ.out _ _ _ _ _ _ _ _) Tryz.underlying29 rfl infoCmd) rfl ?_
  exact HO.out _ (low8_ HL.out (Nat.le_refl _) _ _ _ _ _ _ _ _)
set_option maxRecDepth 100000 in
set_option maxHeartbeats 4000000 in
theorem told_10_yes (b : List UInt8) (hb : b.length ≤ 510) (w : World) (he : Env w) : Calls Tryz.prog 26 #[.int .u8 10, .string (bs b), .bool true] w (CmdOut w (toldP 10 b true).1 (.bool (toldP 10 b true).2)) := by
  obtain ⟨W0, W1, g6, g8, h⟩ := told_made w he 10
  have HT := Lib.hid h
  have hne : ¬ g6 = g8 := by have := h.lt; omega
  have hne2 : ¬ g8 = g6 := by have := h.lt; omega
  have HCL := Lib.hid (fun W => clone_any b (by omega) W)
  have HSO := Lib.hid (fun W => some_any isShown_any ent_cshown b (by omega) W)
  have HO : Hid (∀ W', Below g6 w W' → CmdOut w (toldP 10 b true).1 (.bool (toldP 10 b true).2) (.returned (.tuple #[.agg #[.int .u8 10, .string (bs b), .bool false, .slice none 0 0, .string ⟨#[]⟩, .string ⟨#[]⟩, .bool false, .slice none 0 0], .bool (someP shB b)])) W') := fun W' hb' => by
    rw [h.e6] at hb'
    exact ⟨none, 0, none, 0, rfl, RowFrom.none_ _ _ _, Nat.le_refl _, RowFrom.none_ _ _ _, Nat.le_refl _, hb'⟩
  generalize CmdOut w (toldP 10 b true).1 (.bool (toldP 10 b true).2) = Q at *
  clear h he hb
  generalize someP shB b = R at *
  generalize bs b = S at *
  go_enter Tryz.func26, Tryz.ntmps26
  go_upto_region 1 with (fail)
  rw [← HT.out.w0, ← HT.out.e6]
  go_upto_region 2 with (fail)
  change Code.wp _ _ _ _ (World.alloc W0 (.cells #[.int .u8 10, .string ⟨#[]⟩, .bool false, .slice none 0 0, .string ⟨#[]⟩, .string ⟨#[]⟩, .bool false, .slice none 0 0] 29))
  rw [← HT.out.w1, ← HT.out.e8]
  go_wp2_with (first | (go_at_call 53; refine (HCL.out W1).mono ?_; rintro e w2 ⟨rfl, hb⟩; have HB2 := Lib.hid hb; clear hb; have HZ := Lib.hid (HT.out.zero w2 HB2.out); have HV := Lib.hid (HT.out.verb w2 HB2.out); have HL := Lib.hid (HT.out.low w2 HB2.out); obtain ⟨x0, x1, x2, x3, x4, x5, x6, x7⟩ := cmZero_cells HZ.out; obtain ⟨y0, y1, y2, y3, y4, y5, y6, y7⟩ := cmVerb_cells HV.out; obtain ⟨z0, z1, z2, z3, z4, z5, z6, z7⟩ := froz8 HZ.out; obtain ⟨u0, u1, u2, u3, u4, u5, u6, u7⟩ := froz8 HV.out) | (go_at_call 54; refine (HSO.out _).mono ?_; rintro e w3 ⟨rfl, rfl⟩))
  refine bodyPost_ret (results_cell_tmp rfl _ _ g6 29 _ (0, 0) _ rfl (set8_ (HZ.out.other hne _) _ _ _ _ _ _ _ _) Tryz.underlying29 rfl infoCmd) rfl ?_
  exact HO.out _ (low8_ (HL.out.setCell (p := ⟨g8, 1, none⟩) (Nat.le_of_lt HT.out.lt) _) (Nat.le_refl _) _ _ _ _ _ _ _ _)
set_option maxRecDepth 100000 in
set_option maxHeartbeats 4000000 in
theorem told_10_no (b : List UInt8) (_hb : b.length ≤ 510) (w : World) (he : Env w) : Calls Tryz.prog 26 #[.int .u8 10, .string (bs b), .bool false] w (CmdOut w (toldP 10 b false).1 (.bool (toldP 10 b false).2)) := by
  obtain ⟨W0, W1, g6, g8, h⟩ := told_made w he 10
  have HT := Lib.hid h
  have hne : ¬ g6 = g8 := by have := h.lt; omega
  have hne2 : ¬ g8 = g6 := by have := h.lt; omega
  have HO : Hid (∀ W', Below g6 w W' → CmdOut w (toldP 10 b false).1 (.bool (toldP 10 b false).2) (.returned (.tuple #[.agg #[.int .u8 10, .string ⟨#[]⟩, .bool false, .slice none 0 0, .string ⟨#[]⟩, .string ⟨#[]⟩, .bool false, .slice none 0 0], .bool true])) W') := fun W' hb' => by
    rw [h.e6] at hb'
    exact ⟨none, 0, none, 0, rfl, RowFrom.none_ _ _ _, Nat.le_refl _, RowFrom.none_ _ _ _, Nat.le_refl _, hb'⟩
  generalize CmdOut w (toldP 10 b false).1 (.bool (toldP 10 b false).2) = Q at *
  clear h he _hb
  generalize bs b = S at *
  have HZ := Lib.hid (HT.out.zero W1 (Below.refl _ _))
  have HV := Lib.hid (HT.out.verb W1 (Below.refl _ _))
  have HL := Lib.hid (HT.out.low W1 (Below.refl _ _))
  obtain ⟨x0, x1, x2, x3, x4, x5, x6, x7⟩ := cmZero_cells HZ.out
  obtain ⟨y0, y1, y2, y3, y4, y5, y6, y7⟩ := cmVerb_cells HV.out
  obtain ⟨z0, z1, z2, z3, z4, z5, z6, z7⟩ := froz8 HZ.out
  obtain ⟨u0, u1, u2, u3, u4, u5, u6, u7⟩ := froz8 HV.out
  go_enter Tryz.func26, Tryz.ntmps26
  go_upto_region 1 with (fail)
  rw [← HT.out.w0, ← HT.out.e6]
  go_upto_region 2 with (fail)
  change Code.wp _ _ _ _ (World.alloc W0 (.cells #[.int .u8 10, .string ⟨#[]⟩, .bool false, .slice none 0 0, .string ⟨#[]⟩, .string ⟨#[]⟩, .bool false, .slice none 0 0] 29))
  rw [← HT.out.w1, ← HT.out.e8]
  go_wp2
  refine bodyPost_ret (results_cell_tmp rfl _ _ g6 29 _ (0, 0) _ rfl (set8_ HZ.out _ _ _ _ _ _ _ _) Tryz.underlying29 rfl infoCmd) rfl ?_
  exact HO.out _ (low8_ HL.out (Nat.le_refl _) _ _ _ _ _ _ _ _)
theorem told_any (v : Nat) (h1 : 1 ≤ v) (h2 : v ≤ 11) (b : List UInt8) (hb : b.length ≤ 510) (blank : Bool) (w : World) (he : Env w) : Calls Tryz.prog 26 #[.int .u8 (v : Int), .string (bs b), .bool blank] w (CmdOut w (toldP v b blank).1 (.bool (toldP v b blank).2)) := by
  rcases eleven h1 h2 with rfl | rfl | rfl | rfl | rfl | rfl | rfl | rfl | rfl | rfl | rfl
  · exact told_1 b hb blank w he
  · exact told_2 b hb blank w he
  · exact told_3 b hb blank w he
  · exact told_4 b hb blank w he
  · exact told_5 b hb blank w he
  · exact told_6 b hb blank w he
  · exact told_7 b hb blank w he
  · exact told_8 b hb blank w he
  · cases blank
    · exact told_9_no b hb w he
    · exact told_9_yes b hb w he
  · cases blank
    · exact told_10_no b hb w he
    · exact told_10_yes b hb w he
  · exact told_11 b hb blank w he
end Go.Proofs.YtnkepdeegpampaaGreatDoor
