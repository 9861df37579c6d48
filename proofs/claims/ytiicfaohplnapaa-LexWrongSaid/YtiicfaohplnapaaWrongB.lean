/-
  LexWrong answers true: its walk where the number leaves 8 to 14 by 22. Conditions: texts of at most 1000 bytes, the first one without an error.
-/
import Derived.Test.YtiicfaohplnapaaWrongPure
namespace Go.Proofs.Ytiicfaohplnapaa
open Go.RowKit

set_option maxRecDepth 1000000 in
set_option maxHeartbeats 4000000 in
theorem LexWrong_at8 (s : ByteArray) (n : Int) (behind : ByteArray) (w : World) (hs : s.size ≤ 1000) (hb : behind.size ≤ 1000) (hn0 : 0 ≤ n) (hn1 : n ≤ 255) (hok : (lexP s.data.toList).2.2 = 0) (h : n % 22 = 8) :
    Calls Try.prog 7 #[.string s, .int .u8 n, .string behind] w fun e w' => e = .returned (.bool true) ∧ Below w.heap.size w w' := by
  have HS := Lib.hid (fun W => Lex_any s W)
  have HF := Lib.hid (fun text off er hx W => wrong_fails s behind text off er hx hs hb hok W)
  have HF0 := Lib.hid (fun text er hx W => wrong_fails0 s behind text er hx hs hb hok W)
  generalize lexP s.data.toList = R at *
  obtain ⟨toks, pl, er⟩ := R
  simp only at hok
  subst hok
  go_enter Try.func7, Try.ntmps7
  go_wp2_with fail
  refine (HS.out _).mono ?_
  rintro e w1 ⟨v, rfl, hown, hb1⟩
  obtain ⟨A, c, rfl⟩ := own_len hown
  clear hown HS
  go_wp2_with fail
  refine (HF.out [114, 32, 61, 32, 37] 4 15 (by decide) _).mono ?_
  rintro e w2 ⟨rfl, hb2⟩
  go_wp2_with fail
  refine (repeat_any _).mono ?_
  rintro e w3 ⟨rfl, hb3⟩
  go_wp2_with fail
  refine (long_fails _).mono ?_
  rintro e w4 ⟨rfl, hb4⟩
  go_wp2_with fail
  refine (awake_any _).mono ?_
  rintro e w5 ⟨rfl, hb5⟩
  go_wp2
  go_ret
  exact ⟨rfl, chain5 hb1 hb2 hb3 hb4 hb5⟩

set_option maxRecDepth 1000000 in
set_option maxHeartbeats 4000000 in
theorem LexWrong_at9 (s : ByteArray) (n : Int) (behind : ByteArray) (w : World) (hs : s.size ≤ 1000) (hb : behind.size ≤ 1000) (hn0 : 0 ≤ n) (hn1 : n ≤ 255) (hok : (lexP s.data.toList).2.2 = 0) (h : n % 22 = 9) :
    Calls Try.prog 7 #[.string s, .int .u8 n, .string behind] w fun e w' => e = .returned (.bool true) ∧ Below w.heap.size w w' := by
  have HS := Lib.hid (fun W => Lex_any s W)
  have HF := Lib.hid (fun text off er hx W => wrong_fails s behind text off er hx hs hb hok W)
  have HF0 := Lib.hid (fun text er hx W => wrong_fails0 s behind text er hx hs hb hok W)
  generalize lexP s.data.toList = R at *
  obtain ⟨toks, pl, er⟩ := R
  simp only at hok
  subst hok
  go_enter Try.func7, Try.ntmps7
  go_wp2_with fail
  refine (HS.out _).mono ?_
  rintro e w1 ⟨v, rfl, hown, hb1⟩
  obtain ⟨A, c, rfl⟩ := own_len hown
  clear hown HS
  go_wp2_with fail
  refine (HF.out [114, 32, 61, 32, 37, 113, 49] 4 15 (by decide) _).mono ?_
  rintro e w2 ⟨rfl, hb2⟩
  go_wp2_with fail
  refine (repeat_any _).mono ?_
  rintro e w3 ⟨rfl, hb3⟩
  go_wp2_with fail
  refine (long_fails _).mono ?_
  rintro e w4 ⟨rfl, hb4⟩
  go_wp2_with fail
  refine (awake_any _).mono ?_
  rintro e w5 ⟨rfl, hb5⟩
  go_wp2
  go_ret
  exact ⟨rfl, chain5 hb1 hb2 hb3 hb4 hb5⟩

set_option maxRecDepth 1000000 in
set_option maxHeartbeats 4000000 in
theorem LexWrong_at10 (s : ByteArray) (n : Int) (behind : ByteArray) (w : World) (hs : s.size ≤ 1000) (hb : behind.size ≤ 1000) (hn0 : 0 ≤ n) (hn1 : n ≤ 255) (hok : (lexP s.data.toList).2.2 = 0) (h : n % 22 = 10) :
    Calls Try.prog 7 #[.string s, .int .u8 n, .string behind] w fun e w' => e = .returned (.bool true) ∧ Below w.heap.size w w' := by
  have HS := Lib.hid (fun W => Lex_any s W)
  have HF := Lib.hid (fun text off er hx W => wrong_fails s behind text off er hx hs hb hok W)
  have HF0 := Lib.hid (fun text er hx W => wrong_fails0 s behind text er hx hs hb hok W)
  generalize lexP s.data.toList = R at *
  obtain ⟨toks, pl, er⟩ := R
  simp only at hok
  subst hok
  go_enter Try.func7, Try.ntmps7
  go_wp2_with fail
  refine (HS.out _).mono ?_
  rintro e w1 ⟨v, rfl, hown, hb1⟩
  obtain ⟨A, c, rfl⟩ := own_len hown
  clear hown HS
  go_wp2_with fail
  refine (HF.out [114, 32, 61, 32, 37, 120] 4 15 (by decide) _).mono ?_
  rintro e w2 ⟨rfl, hb2⟩
  go_wp2_with fail
  refine (repeat_any _).mono ?_
  rintro e w3 ⟨rfl, hb3⟩
  go_wp2_with fail
  refine (long_fails _).mono ?_
  rintro e w4 ⟨rfl, hb4⟩
  go_wp2_with fail
  refine (awake_any _).mono ?_
  rintro e w5 ⟨rfl, hb5⟩
  go_wp2
  go_ret
  exact ⟨rfl, chain5 hb1 hb2 hb3 hb4 hb5⟩

set_option maxRecDepth 1000000 in
set_option maxHeartbeats 4000000 in
theorem LexWrong_at11 (s : ByteArray) (n : Int) (behind : ByteArray) (w : World) (hs : s.size ≤ 1000) (hb : behind.size ≤ 1000) (hn0 : 0 ≤ n) (hn1 : n ≤ 255) (hok : (lexP s.data.toList).2.2 = 0) (h : n % 22 = 11) :
    Calls Try.prog 7 #[.string s, .int .u8 n, .string behind] w fun e w' => e = .returned (.bool true) ∧ Below w.heap.size w w' := by
  have HS := Lib.hid (fun W => Lex_any s W)
  have HF := Lib.hid (fun text off er hx W => wrong_fails s behind text off er hx hs hb hok W)
  have HF0 := Lib.hid (fun text er hx W => wrong_fails0 s behind text er hx hs hb hok W)
  generalize lexP s.data.toList = R at *
  obtain ⟨toks, pl, er⟩ := R
  simp only at hok
  subst hok
  go_enter Try.func7, Try.ntmps7
  go_wp2_with fail
  refine (HS.out _).mono ?_
  rintro e w1 ⟨v, rfl, hown, hb1⟩
  obtain ⟨A, c, rfl⟩ := own_len hown
  clear hown HS
  go_wp2_with fail
  refine (HF.out [114, 32, 61, 32, 37, 100, 50, 53, 54] 4 15 (by decide) _).mono ?_
  rintro e w2 ⟨rfl, hb2⟩
  go_wp2_with fail
  refine (repeat_any _).mono ?_
  rintro e w3 ⟨rfl, hb3⟩
  go_wp2_with fail
  refine (long_fails _).mono ?_
  rintro e w4 ⟨rfl, hb4⟩
  go_wp2_with fail
  refine (awake_any _).mono ?_
  rintro e w5 ⟨rfl, hb5⟩
  go_wp2
  go_ret
  exact ⟨rfl, chain5 hb1 hb2 hb3 hb4 hb5⟩

set_option maxRecDepth 1000000 in
set_option maxHeartbeats 4000000 in
theorem LexWrong_at12 (s : ByteArray) (n : Int) (behind : ByteArray) (w : World) (hs : s.size ≤ 1000) (hb : behind.size ≤ 1000) (hn0 : 0 ≤ n) (hn1 : n ≤ 255) (hok : (lexP s.data.toList).2.2 = 0) (h : n % 22 = 12) :
    Calls Try.prog 7 #[.string s, .int .u8 n, .string behind] w fun e w' => e = .returned (.bool true) ∧ Below w.heap.size w w' := by
  have HS := Lib.hid (fun W => Lex_any s W)
  have HF := Lib.hid (fun text off er hx W => wrong_fails s behind text off er hx hs hb hok W)
  have HF0 := Lib.hid (fun text er hx W => wrong_fails0 s behind text er hx hs hb hok W)
  generalize lexP s.data.toList = R at *
  obtain ⟨toks, pl, er⟩ := R
  simp only at hok
  subst hok
  go_enter Try.func7, Try.ntmps7
  go_wp2_with fail
  refine (HS.out _).mono ?_
  rintro e w1 ⟨v, rfl, hown, hb1⟩
  obtain ⟨A, c, rfl⟩ := own_len hown
  clear hown HS
  go_wp2_with fail
  refine (HF.out [114, 32, 61, 32, 37, 120, 53, 45, 52] 4 15 (by decide) _).mono ?_
  rintro e w2 ⟨rfl, hb2⟩
  go_wp2_with fail
  refine (repeat_any _).mono ?_
  rintro e w3 ⟨rfl, hb3⟩
  go_wp2_with fail
  refine (long_fails _).mono ?_
  rintro e w4 ⟨rfl, hb4⟩
  go_wp2_with fail
  refine (awake_any _).mono ?_
  rintro e w5 ⟨rfl, hb5⟩
  go_wp2
  go_ret
  exact ⟨rfl, chain5 hb1 hb2 hb3 hb4 hb5⟩

set_option maxRecDepth 1000000 in
set_option maxHeartbeats 4000000 in
theorem LexWrong_at13 (s : ByteArray) (n : Int) (behind : ByteArray) (w : World) (hs : s.size ≤ 1000) (hb : behind.size ≤ 1000) (hn0 : 0 ≤ n) (hn1 : n ≤ 255) (hok : (lexP s.data.toList).2.2 = 0) (h : n % 22 = 13) :
    Calls Try.prog 7 #[.string s, .int .u8 n, .string behind] w fun e w' => e = .returned (.bool true) ∧ Below w.heap.size w w' := by
  have HS := Lib.hid (fun W => Lex_any s W)
  have HF := Lib.hid (fun text off er hx W => wrong_fails s behind text off er hx hs hb hok W)
  have HF0 := Lib.hid (fun text er hx W => wrong_fails0 s behind text er hx hs hb hok W)
  generalize lexP s.data.toList = R at *
  obtain ⟨toks, pl, er⟩ := R
  simp only at hok
  subst hok
  go_enter Try.func7, Try.ntmps7
  go_wp2_with fail
  refine (HS.out _).mono ?_
  rintro e w1 ⟨v, rfl, hown, hb1⟩
  obtain ⟨A, c, rfl⟩ := own_len hown
  clear hown HS
  go_wp2_with fail
  refine (HF.out [114, 32, 61, 32, 37, 120, 49, 46] 4 15 (by decide) _).mono ?_
  rintro e w2 ⟨rfl, hb2⟩
  go_wp2_with fail
  refine (repeat_any _).mono ?_
  rintro e w3 ⟨rfl, hb3⟩
  go_wp2_with fail
  refine (long_fails _).mono ?_
  rintro e w4 ⟨rfl, hb4⟩
  go_wp2_with fail
  refine (awake_any _).mono ?_
  rintro e w5 ⟨rfl, hb5⟩
  go_wp2
  go_ret
  exact ⟨rfl, chain5 hb1 hb2 hb3 hb4 hb5⟩

set_option maxRecDepth 1000000 in
set_option maxHeartbeats 4000000 in
theorem LexWrong_at14 (s : ByteArray) (n : Int) (behind : ByteArray) (w : World) (hs : s.size ≤ 1000) (hb : behind.size ≤ 1000) (hn0 : 0 ≤ n) (hn1 : n ≤ 255) (hok : (lexP s.data.toList).2.2 = 0) (h : n % 22 = 14) :
    Calls Try.prog 7 #[.string s, .int .u8 n, .string behind] w fun e w' => e = .returned (.bool true) ∧ Below w.heap.size w w' := by
  have HS := Lib.hid (fun W => Lex_any s W)
  have HF := Lib.hid (fun text off er hx W => wrong_fails s behind text off er hx hs hb hok W)
  have HF0 := Lib.hid (fun text er hx W => wrong_fails0 s behind text er hx hs hb hok W)
  generalize lexP s.data.toList = R at *
  obtain ⟨toks, pl, er⟩ := R
  simp only at hok
  subst hok
  go_enter Try.func7, Try.ntmps7
  go_wp2_with fail
  refine (HS.out _).mono ?_
  rintro e w1 ⟨v, rfl, hown, hb1⟩
  obtain ⟨A, c, rfl⟩ := own_len hown
  clear hown HS
  go_wp2_with fail
  refine (HF.out [114, 32, 61, 32, 37, 98, 48, 48, 48, 48, 48, 48, 48, 48, 49] 4 15 (by decide) _).mono ?_
  rintro e w2 ⟨rfl, hb2⟩
  go_wp2_with fail
  refine (repeat_any _).mono ?_
  rintro e w3 ⟨rfl, hb3⟩
  go_wp2_with fail
  refine (long_fails _).mono ?_
  rintro e w4 ⟨rfl, hb4⟩
  go_wp2_with fail
  refine (awake_any _).mono ?_
  rintro e w5 ⟨rfl, hb5⟩
  go_wp2
  go_ret
  exact ⟨rfl, chain5 hb1 hb2 hb3 hb4 hb5⟩
end Go.Proofs.Ytiicfaohplnapaa
