/-
  The contracts of lex's isIdle, takeLine and cutLine. Conditions: the lexer's state in memory; a text of at most 65536 bytes.
-/
import Derived.Test.YtciabhboiomehaaDoorTokens
namespace Go.Proofs.YtciabhboiomehaaDoor
open Go.RowKit

/-- a line that is passed over -/
def idleB (l : List UInt8) : Bool := decide (spanZ blankZ l = l.length) || (byteZ l (spanZ blankZ l) == 59)

set_option maxHeartbeats 1000000 in
theorem isIdle_any (s : ByteArray) (hs : s.size ≤ 65536) (w : World) :
    Calls Tryd.prog 49 #[.string s] w fun e w' => e = .returned (.bool (idleB s.data.toList)) ∧ w = w' := by
  have hle := spanZ_le blankZ s.data.toList
  rw [listLen] at hle
  have HSP := Lib.hid (fun w => span_same s _ blankZ hs enters_blank (fun n w _ _ => isBlank_any n w) w)
  have HI := Lib.hid (idleB.eq_1 s.data.toList)
  rw [listLen] at HI
  generalize idleB s.data.toList = I at *
  generalize spanZ blankZ s.data.toList = n at *
  by_cases hn : n = s.size
  · have hb : ((n : Int) == (s.size : Int)) = true := by
      rw [beq_iff_eq]
      omega
    have hI : Hid (I = true) := by
      show I = true
      rw [HI.out]
      simp [hn]
    clear hn HI
    go_enter Tryd.func49, Tryd.ntmps49
    go_wp2_with (go_at_call 62; refine (HSP.out _).mono ?_; rintro e w' ⟨rfl, rfl⟩)
    go_ret
    exact ⟨ret_bool (by rw [hI.out]), rfl⟩
  · have hlt : n < s.size := by omega
    have hb : ((n : Int) == (s.size : Int)) = false := by
      rw [beq_eq_false_iff_ne]
      omega
    have HB := Lib.hid (byteZ_at s n hlt)
    have hI : Hid (I = (byteZ s.data.toList n == 59)) := by
      show I = _
      rw [HI.out]
      simp [hn]
    clear hn HI
    go_enter Tryd.func49, Tryd.ntmps49
    go_wp2_with (go_at_call 62; refine (HSP.out _).mono ?_; rintro e w' ⟨rfl, rfl⟩)
    go_ret
    exact ⟨ret_bool (by rw [hI.out, HB.out]), rfl⟩

/-- what a line does: the tokens, whether a rule is open, and the place and the number of an error, or 0, 0 -/
structure Ln where
  toks : List Tk
  opened : Bool
  place : Nat
  err : Nat
def lineP (l : List UInt8) (start : Nat) (toks : List Tk) (o : Bool) : Ln :=
  if idleB l = true then ⟨toks, o, 0, 0⟩
  else if letterZ (byteZ l 0) = true then
    ⟨(tokensP l start (if o = true then toks ++ [endTok start] else toks)).1, true, (tokensP l start (if o = true then toks ++ [endTok start] else toks)).2.1, (tokensP l start (if o = true then toks ++ [endTok start] else toks)).2.2⟩
  else if (blankZ (byteZ l 0) && o) = true then ⟨(tokensP l start toks).1, o, (tokensP l start toks).2.1, (tokensP l start toks).2.2⟩
  else ⟨toks, o, start, 10⟩

theorem idle_nil : idleB [] = true := by decide

set_option maxHeartbeats 4000000 in
theorem takeLine_any (s : ByteArray) (g base N start : Nat) (v : Value) (toks : List Tk) (o : Bool) (hs : s.size ≤ 65536) (hst : start ≤ 70000) (hn : toks.length + s.size ≤ 199999) (w : World) (h : LexAt w g base N v toks o) :
    Calls Tryd.prog 21 #[.pointer (some ⟨g, 0, none⟩), .string s, .int .i64 start] w fun e w' =>
      e = .returned (.tuple #[.int .i64 (lineP s.data.toList start toks o).place, .int .i64 (lineP s.data.toList start toks o).err]) ∧ (∃ v', LexAt w' g base N v' (lineP s.data.toList start toks o).toks (lineP s.data.toList start toks o).opened) ∧
      (lineP s.data.toList start toks o).toks.length ≤ toks.length + 1 + s.size ∧ Below g w w' := by
  have HID := Lib.hid (fun W => isIdle_any s hs W)
  have HL := lineP.eq_1 s.data.toList start toks o
  generalize lineP s.data.toList start toks o = R at *
  cases hid : idleB s.data.toList with
  | true =>
    rw [hid] at HID
    rw [if_pos hid] at HL
    have HR := Lib.hid HL
    clear HL hid
    go_enter Tryd.func21, Tryd.ntmps21
    go_wp2_with (go_at_call 49; refine (HID.out _).mono ?_; rintro e w' ⟨rfl, rfl⟩)
    go_ret2
    refine ⟨by rw [HR.out]; rfl, ⟨v, ?_⟩, by rw [HR.out]; show toks.length ≤ _; omega, Below.refl _ _⟩
    rw [HR.out]
    exact h
  | false =>
    have h1 : 1 ≤ s.size := by
      rcases Nat.eq_zero_or_pos s.size with h0 | h0
      · have : s.data.toList = [] := List.eq_nil_of_length_eq_zero (by rw [listLen]; exact h0)
        rw [this] at hid
        cases hid
      · exact h0
    have h1' : 0 < s.size := h1
    rw [hid] at HID
    rw [if_neg (by simp [hid])] at HL
    clear hid
    have HB := Lib.hid (byteZ_at s 0 h1)
    have hlo := byteZ_lo s.data.toList 0
    have hhi := byteZ_hi s.data.toList 0
    rw [← HB.out] at hlo hhi
    have HLT := Lib.hid (fun W => isLetter_any (byteZ s.data.toList 0) W)
    have HBL := Lib.hid (fun W => isBlank_any (byteZ s.data.toList 0) W)
    rw [← HB.out] at HL HLT HBL
    cases hlt : letterZ ((s[0]'h1').toNat : Int) with
    | true =>
      rw [hlt] at HLT
      rw [if_pos hlt] at HL
      clear hlt
      cases o with
      | true =>
        rw [if_pos rfl] at HL
        have HR := Lib.hid HL
        clear HL
        go_enter Tryd.func21, Tryd.ntmps21
        go_wp2_with (first | (go_at_call 49; refine (HID.out _).mono ?_; rintro e w' ⟨rfl, rfl⟩) | (go_at_call 39; refine (HLT.out _).mono ?_; rintro e w' ⟨rfl, rfl⟩))
        refine (endRule_open g base N v toks start _ h (by omega)).mono ?_
        rintro e w1 ⟨rfl, ⟨v1, hl1⟩, hb1⟩
        have hc1 := hl1.blk.cell
        have hf1 := hl1.blk.frozen
        have hfl := hl1.flag true
        have HF := Lib.hid hfl
        clear hfl
        go_wp2_with fail
        refine (takeTokens_any s g base N start v1 (toks ++ [endTok start]) true hs hst (by simp; omega) _ HF.out.1).mono ?_
        rintro e w2 ⟨rfl, ⟨v2, hl2⟩, hlen, hb2⟩
        generalize tokensP s.data.toList start (toks ++ [endTok start]) = T at *
        have HB2 := Lib.hid (hb1.trans (HF.out.2.trans hb2))
        clear hc1 hf1 hl1 hb1 hb2 HF
        go_wp2
        go_ret2
        refine ⟨by rw [HR.out]; rfl, ⟨v2, ?_⟩, by rw [HR.out]; simp at hlen; show T.1.length ≤ _; omega, HB2.out⟩
        rw [HR.out]
        exact hl2
      | false =>
        rw [if_neg (by simp)] at HL
        have HR := Lib.hid HL
        clear HL
        go_enter Tryd.func21, Tryd.ntmps21
        go_wp2_with (first | (go_at_call 49; refine (HID.out _).mono ?_; rintro e w' ⟨rfl, rfl⟩) | (go_at_call 39; refine (HLT.out _).mono ?_; rintro e w' ⟨rfl, rfl⟩))
        refine (endRule_shut g base N v toks start _ h).mono ?_
        rintro e w1 ⟨rfl, hl1, hb1⟩
        have hc1 := hl1.blk.cell
        have hf1 := hl1.blk.frozen
        have hfl := hl1.flag true
        have HF := Lib.hid hfl
        clear hfl
        go_wp2_with fail
        refine (takeTokens_any s g base N start v toks true hs hst (by omega) _ HF.out.1).mono ?_
        rintro e w2 ⟨rfl, ⟨v2, hl2⟩, hlen, hb2⟩
        generalize tokensP s.data.toList start toks = T at *
        have HB2 := Lib.hid (hb1.trans (HF.out.2.trans hb2))
        clear hc1 hf1 hl1 hb1 hb2 HF
        go_wp2
        go_ret2
        refine ⟨by rw [HR.out]; rfl, ⟨v2, ?_⟩, by rw [HR.out]; show T.1.length ≤ _; omega, HB2.out⟩
        rw [HR.out]
        exact hl2
    | false =>
      rw [hlt] at HLT
      rw [if_neg (by simp [hlt])] at HL
      clear hlt
      have hc0 := h.blk.cell
      cases hbl : blankZ ((s[0]'h1').toNat : Int) with
      | false =>
        rw [hbl] at HBL HL
        rw [if_neg (by simp)] at HL
        have HR := Lib.hid HL
        clear HL hbl
        go_enter Tryd.func21, Tryd.ntmps21
        go_wp2_with (first | (go_at_call 49; refine (HID.out _).mono ?_; rintro e w' ⟨rfl, rfl⟩) | (go_at_call 39; refine (HLT.out _).mono ?_; rintro e w' ⟨rfl, rfl⟩) | (go_at_call 35; refine (HBL.out _).mono ?_; rintro e w' ⟨rfl, rfl⟩))
        go_ret2
        refine ⟨by rw [HR.out]; rfl, ⟨v, ?_⟩, by rw [HR.out]; show toks.length ≤ _; omega, Below.refl _ _⟩
        rw [HR.out]
        exact h
      | true =>
        rw [hbl] at HBL HL
        clear hbl
        cases o with
        | false =>
          rw [if_neg (by simp)] at HL
          have HR := Lib.hid HL
          clear HL
          go_enter Tryd.func21, Tryd.ntmps21
          go_wp2_with (first | (go_at_call 49; refine (HID.out _).mono ?_; rintro e w' ⟨rfl, rfl⟩) | (go_at_call 39; refine (HLT.out _).mono ?_; rintro e w' ⟨rfl, rfl⟩) | (go_at_call 35; refine (HBL.out _).mono ?_; rintro e w' ⟨rfl, rfl⟩))
          go_ret2
          refine ⟨by rw [HR.out]; rfl, ⟨v, ?_⟩, by rw [HR.out]; show toks.length ≤ _; omega, Below.refl _ _⟩
          rw [HR.out]
          exact h
        | true =>
          rw [if_pos (by simp)] at HL
          have HR := Lib.hid HL
          clear HL
          go_enter Tryd.func21, Tryd.ntmps21
          go_wp2_with (first | (go_at_call 49; refine (HID.out _).mono ?_; rintro e w' ⟨rfl, rfl⟩) | (go_at_call 39; refine (HLT.out _).mono ?_; rintro e w' ⟨rfl, rfl⟩) | (go_at_call 35; refine (HBL.out _).mono ?_; rintro e w' ⟨rfl, rfl⟩))
          refine (takeTokens_any s g base N start v toks true hs hst (by omega) _ h).mono ?_
          rintro e w2 ⟨rfl, ⟨v2, hl2⟩, hlen, hb2⟩
          generalize tokensP s.data.toList start toks = T at *
          clear hc0
          go_wp2
          go_ret2
          refine ⟨by rw [HR.out]; rfl, ⟨v2, ?_⟩, by rw [HR.out]; show T.1.length ≤ _; omega, hb2⟩
          rw [HR.out]
          exact hl2

/-- the line that begins at a place, without its end, and where the next one begins -/
def cutP (l : List UInt8) (start : Nat) : List UInt8 × Nat :=
  if Lib.indexByte (l.drop start) 10 < 0 then (l.drop start, l.length)
  else (Lib.trimSuffix ((l.drop start).take (Lib.indexByte (l.drop start) 10).toNat) [13], start + (Lib.indexByte (l.drop start) 10).toNat + 1)

theorem indexByte_bd (l : List UInt8) (c : UInt8) : -1 ≤ Lib.indexByte l c ∧ Lib.indexByte l c < l.length := by
  induction l with
  | nil => simp [Lib.indexByte]
  | cons b l ih =>
    simp only [Lib.indexByte, List.length_cons]
    split
    · omega
    · split
      · omega
      · rename_i h
        have : Lib.indexByte l c ≠ -1 := by simpa using h
        omega

set_option maxHeartbeats 1000000 in
theorem cutLine_any (s : ByteArray) (start : Nat) (hs : s.size ≤ 65536) (h0 : start ≤ s.size) (w : World) :
    Calls Tryd.prog 20 #[.string s, .int .i64 start] w fun e w' => e = .returned (.tuple #[.string (bs (cutP s.data.toList start).1), .int .i64 (cutP s.data.toList start).2]) ∧ w = w' := by
  have hx : (s.extract start s.size).data.toList = s.data.toList.drop start := by
    rw [extract_list, List.take_of_length_le (by rw [List.length_drop, listLen]; omega)]
  have HX := Lib.hid hx
  have HI := Lib.hid (fun W => Tryd.strings_IndexByte (s.extract start s.size) 10 W)
  rw [hx] at HI
  have hbd := indexByte_bd (s.data.toList.drop start) 10
  rw [List.length_drop, listLen] at hbd
  have HC := cutP.eq_1 s.data.toList start
  rw [listLen] at HC
  have e10 : (10 : Int).toNat.toUInt8 = 10 := rfl
  rw [e10] at HI
  generalize cutP s.data.toList start = R at *
  generalize Lib.indexByte (s.data.toList.drop start) 10 = m at *
  clear hx e10
  by_cases hm : m < 0
  · rw [if_pos hm] at HC
    have HR := Lib.hid HC
    clear HC
    go_enter Tryd.func20, Tryd.ntmps20
    go_wp2_with (go_at_call 47; refine (HI.out _).mono ?_; rintro e w' ⟨rfl, rfl⟩)
    go_ret2
    refine ⟨?_, rfl⟩
    rw [HR.out, ← HX.out, bs_of]
    rfl
  · rw [if_neg hm] at HC
    have HR := Lib.hid HC
    clear HC
    obtain ⟨n, rfl⟩ : ∃ n : Nat, m = n := ⟨m.toNat, by omega⟩
    have hx2 : (s.extract start (start + n)).data.toList = (s.data.toList.drop start).take n := by rw [extract_list, Nat.add_sub_cancel_left]
    have HT := Lib.hid (fun W => Tryd.strings_TrimSuffix (s.extract start (start + n)) ⟨#[13]⟩ W (by simp; omega))
    rw [hx2] at HT
    clear hx2
    go_enter Tryd.func20, Tryd.ntmps20
    go_wp2_with (go_at_call 47; refine (HI.out _).mono ?_; rintro e w' ⟨rfl, rfl⟩)
    refine (HT.out _).mono ?_
    rintro e w' ⟨rfl, rfl⟩
    go_wp2
    go_ret2
    refine ⟨?_, rfl⟩
    rw [HR.out]
    simp [bs]
end Go.Proofs.YtciabhboiomehaaDoor
