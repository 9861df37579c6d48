/-
  The contract of lex.readTimes: what it answers for every text. Conditions: a text of at most 65536 bytes.
-/
import Derived.Test.YtciabhboiomehaaDoorPiecesB
namespace Go.Proofs.YtciabhboiomehaaDoor
open Go.RowKit

def timesTok (least most : Int) (size : Nat) : Pc := { tok := { kind := 9, mn := least, mx := most }, size := size }

/-- a number, or none, and perhaps * and a number, or none -/
def timesP (l : List UInt8) : Pc :=
  if 4 < spanZ digitZ l then { bad := 0, err := 12 }
  else if standsB l (spanZ digitZ l) 42 = true then
    if 4 < spanZ digitZ (l.drop (spanZ digitZ l + 1)) then { bad := spanZ digitZ l + 1, err := 12 }
    else if 0 < spanZ digitZ (l.drop (spanZ digitZ l + 1)) then
      if numberZ 10 ((l.drop (spanZ digitZ l + 1)).take (spanZ digitZ (l.drop (spanZ digitZ l + 1)))) < numberZ 10 (l.take (spanZ digitZ l)) then { bad := 0, err := 13 }
      else timesTok (numberZ 10 (l.take (spanZ digitZ l))) (numberZ 10 ((l.drop (spanZ digitZ l + 1)).take (spanZ digitZ (l.drop (spanZ digitZ l + 1))))) (spanZ digitZ l + 1 + spanZ digitZ (l.drop (spanZ digitZ l + 1)))
    else timesTok (numberZ 10 (l.take (spanZ digitZ l))) (-1) (spanZ digitZ l + 1)
  else timesTok (numberZ 10 (l.take (spanZ digitZ l))) (numberZ 10 (l.take (spanZ digitZ l))) (spanZ digitZ l)

theorem number4_bd (l : List UInt8) (n : Nat) (h : n ≤ 4) (hl : n ≤ l.length) : 0 ≤ numberZ 10 (l.take n) ∧ numberZ 10 (l.take n) ≤ 83520 := by
  have hb := numberZ_bd 10 (by omega) (by omega) l n hl
  have hp : pow17 n ≤ 83521 := by
    clear hb
    match n, h with
    | 0, _ => decide
    | 1, _ => decide
    | 2, _ => decide
    | 3, _ => decide
    | 4, _ => decide
  omega

def zeroPiece : Obj := .cells #[.int .u8 0, .int .i64 0, .string ⟨#[]⟩, .int .i64 0, .int .i64 0, .int .u8 0, .int .u8 0, .int .i64 0, .int .i64 0, .int .i64 0] 100

set_option maxHeartbeats 2000000 in
theorem readTimes_any (s : ByteArray) (hs : s.size ≤ 65536) (w : World) :
    Calls Tryd.prog 43 #[.string s] w fun e w' => e = .returned (pieceV (timesP s.data.toList)) ∧ Below w.heap.size w w' := by
  have hle := spanZ_le digitZ s.data.toList
  rw [listLen] at hle
  have HT' := timesP.eq_1 s.data.toList
  generalize hP : timesP s.data.toList = P at *
  clear hP
  generalize hn : spanZ digitZ s.data.toList = n at *
  have HN := Lib.hid hn
  clear hn
  have HSP := Lib.hid (fun w => span_same s _ digitZ hs enters_digit (fun n w _ _ => isDigit_any n w) w)
  rw [HN.out] at HSP
  by_cases h4 : 4 < n
  · rw [if_pos h4] at HT'
    have HT := Lib.hid HT'
    clear HT'
    go_enter Tryd.func43, Tryd.ntmps43
    go_wp2_with (go_at_call 62; refine (HSP.out _).mono ?_; rintro e w' ⟨rfl, rfl⟩)
    refine (fault_any 0 12 _).mono ?_
    rintro e w1 ⟨rfl, hb⟩
    obtain ⟨hc, hf⟩ := bcell hb
    unfold pieceV
    go_wp2
    refine bodyPost_ret (v := pieceV { bad := 0, err := 12 }) ?_ rfl ⟨by rw [HT.out], ?_⟩
    · simp [results, Tryd.results43, go_sem, hc]
      rfl
    · have h1 : Below w.heap.size w w1 := ((Below.refl _ _).alloc (Nat.le_refl _) _).trans (hb.mono (by simp))
      iterate 10 refine Below.setCell ?_ (by simp) _
      exact h1
  · rw [if_neg h4] at HT'
    have h4' : n ≤ 4 := by omega
    have hnb := number4_bd s.data.toList n h4' (by rw [listLen]; omega)
    have HN1 := Lib.hid (fun W => number_any (s.extract 0 n) 10 (by simp; omega) (by omega) (by omega) W)
    have hx2 : (s.extract 0 n).data.toList = s.data.toList.take n := by rw [extract_list, List.drop_zero, Nat.sub_zero]
    rw [hx2] at HN1
    clear hx2
    generalize numberZ 10 (s.data.toList.take n) = v at *
    have HST := Lib.hid (fun W => stands_any s n 42 W)
    cases hst : standsB s.data.toList n 42 with
    | false =>
      rw [hst] at HST HT'
      rw [if_neg (by simp)] at HT'
      have HT := Lib.hid HT'
      clear HT' hst
      go_enter Tryd.func43, Tryd.ntmps43
      go_wp2_with (first | (go_at_call 62; refine (HSP.out _).mono ?_; rintro e w' ⟨rfl, rfl⟩) | (go_at_call 70; refine (HN1.out _).mono ?_; rintro e w' ⟨rfl, rfl⟩) | (go_at_call 71; refine (HST.out _).mono ?_; rintro e w' ⟨rfl, rfl⟩))
      exact bodyPost_ret (v := pieceV (timesTok v v n)) (by simp [results, Tryd.results43, go_sem]; rfl) rfl ⟨by rw [HT.out], (Below.refl _ _).alloc (Nat.le_refl _) _⟩
    | true =>
      rw [hst] at HST HT'
      rw [if_pos rfl] at HT'
      have hn1 : n + 1 ≤ s.size := by
        unfold standsB at hst
        simp only [Bool.and_eq_true, decide_eq_true_eq, listLen] at hst
        omega
      have hx3 : (s.extract (n + 1) s.size).data.toList = s.data.toList.drop (n + 1) := by
        rw [extract_list, List.take_of_length_le (by rw [List.length_drop, listLen]; omega)]
      have hle2 := spanZ_le digitZ (s.data.toList.drop (n + 1))
      rw [List.length_drop, listLen] at hle2
      have HSP2 := Lib.hid (fun w => span_same (s.extract (n + 1) s.size) _ digitZ (by simp; omega) enters_digit (fun n w _ _ => isDigit_any n w) w)
      rw [hx3] at HSP2
      generalize spanZ digitZ (s.data.toList.drop (n + 1)) = m at *
      clear hx3 hst
      by_cases hm4 : 4 < m
      · rw [if_pos hm4] at HT'
        have HT := Lib.hid HT'
        clear HT'
        go_enter Tryd.func43, Tryd.ntmps43
        go_wp2_with (go_at_call 62; refine (HSP.out _).mono ?_; rintro e w' ⟨rfl, rfl⟩)
        refine (HN1.out _).mono ?_
        rintro e w' ⟨rfl, rfl⟩
        go_wp2_with (go_at_call 71; refine (HST.out _).mono ?_; rintro e w' ⟨rfl, rfl⟩)
        refine (HSP2.out _).mono ?_
        rintro e w' ⟨rfl, rfl⟩
        go_wp2_with fail
        rw [show ((n : Int) + 1) = ((n + 1 : Nat) : Int) from by omega]
        refine (fault_any (n + 1) 12 _).mono ?_
        rintro e w1 ⟨rfl, hb⟩
        obtain ⟨hc, hf⟩ := bcell hb
        unfold pieceV
        go_wp2
        refine bodyPost_ret (v := pieceV { bad := n + 1, err := 12 }) ?_ rfl ⟨by rw [HT.out], ?_⟩
        · simp [results, Tryd.results43, go_sem, hc]
          rfl
        · have h1 : Below w.heap.size w w1 := ((Below.refl _ _).alloc (Nat.le_refl _) _).trans (hb.mono (by simp))
          iterate 10 refine Below.setCell ?_ (by simp) _
          exact h1
      · rw [if_neg hm4] at HT'
        have hm4' : m ≤ 4 := by omega
        by_cases hm0 : 0 < m
        · rw [if_pos hm0] at HT'
          have hnb2 := number4_bd (s.data.toList.drop (n + 1)) m hm4' (by rw [List.length_drop, listLen]; omega)
          have HN2 := Lib.hid (fun W => number_any (s.extract (n + 1) (n + 1 + m)) 10 (by simp; omega) (by omega) (by omega) W)
          have hx4 : (s.extract (n + 1) (n + 1 + m)).data.toList = (s.data.toList.drop (n + 1)).take m := by rw [extract_list, Nat.add_sub_cancel_left]
          rw [hx4] at HN2
          clear hx4
          generalize numberZ 10 ((s.data.toList.drop (n + 1)).take m) = u at *
          by_cases huv : u < v
          · rw [if_pos huv] at HT'
            have HT := Lib.hid HT'
            clear HT'
            go_enter Tryd.func43, Tryd.ntmps43
            go_wp2_with (go_at_call 62; refine (HSP.out _).mono ?_; rintro e w' ⟨rfl, rfl⟩)
            refine (HN1.out _).mono ?_
            rintro e w' ⟨rfl, rfl⟩
            go_wp2_with (go_at_call 71; refine (HST.out _).mono ?_; rintro e w' ⟨rfl, rfl⟩)
            refine (HSP2.out _).mono ?_
            rintro e w' ⟨rfl, rfl⟩
            go_wp2_with fail
            refine (HN2.out _).mono ?_
            rintro e w' ⟨rfl, rfl⟩
            go_wp2_with fail
            refine (fault_any 0 13 _).mono ?_
            rintro e w1 ⟨rfl, hb⟩
            obtain ⟨hc, hf⟩ := bcell hb
            unfold pieceV
            go_wp2
            refine bodyPost_ret (v := pieceV { bad := 0, err := 13 }) ?_ rfl ⟨by rw [HT.out], ?_⟩
            · simp [results, Tryd.results43, go_sem, hc]
              rfl
            · have h1 : Below w.heap.size w w1 := ((Below.refl _ _).alloc (Nat.le_refl _) _).trans (hb.mono (by simp))
              iterate 10 refine Below.setCell ?_ (by simp) _
              exact h1
          · rw [if_neg huv] at HT'
            have HT := Lib.hid HT'
            clear HT'
            have huv' : v ≤ u := by omega
            go_enter Tryd.func43, Tryd.ntmps43
            go_wp2_with (go_at_call 62; refine (HSP.out _).mono ?_; rintro e w' ⟨rfl, rfl⟩)
            refine (HN1.out _).mono ?_
            rintro e w' ⟨rfl, rfl⟩
            go_wp2_with (go_at_call 71; refine (HST.out _).mono ?_; rintro e w' ⟨rfl, rfl⟩)
            refine (HSP2.out _).mono ?_
            rintro e w' ⟨rfl, rfl⟩
            go_wp2_with fail
            refine (HN2.out _).mono ?_
            rintro e w' ⟨rfl, rfl⟩
            go_wp2
            exact bodyPost_ret (v := pieceV (timesTok v u (n + 1 + m))) (by simp [results, Tryd.results43, go_sem]; rfl) rfl ⟨by rw [HT.out], (Below.refl _ _).alloc (Nat.le_refl _) _⟩
        · rw [if_neg hm0] at HT'
          have HT := Lib.hid HT'
          clear HT'
          obtain rfl : m = 0 := by omega
          go_enter Tryd.func43, Tryd.ntmps43
          go_wp2_with (go_at_call 62; refine (HSP.out _).mono ?_; rintro e w' ⟨rfl, rfl⟩)
          refine (HN1.out _).mono ?_
          rintro e w' ⟨rfl, rfl⟩
          go_wp2_with (go_at_call 71; refine (HST.out _).mono ?_; rintro e w' ⟨rfl, rfl⟩)
          refine (HSP2.out _).mono ?_
          rintro e w' ⟨rfl, rfl⟩
          go_wp2
          exact bodyPost_ret (v := pieceV (timesTok v (-1) (n + 1))) (by simp [results, Tryd.results43, go_sem]; rfl) rfl ⟨by rw [HT.out], (Below.refl _ _).alloc (Nat.le_refl _) _⟩
end Go.Proofs.YtciabhboiomehaaDoor
