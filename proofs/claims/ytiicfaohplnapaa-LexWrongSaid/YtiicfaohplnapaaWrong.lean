/-
  LexWrong answers true for every two texts and every number: its walk. No conditions.
-/
import Derived.Test.YtiicfaohplnapaaWrongA
import Derived.Test.YtiicfaohplnapaaWrongB
import Derived.Test.YtiicfaohplnapaaWrongC
namespace Go.Proofs.Ytiicfaohplnapaa
open Go.RowKit

set_option maxRecDepth 1000000 in
set_option maxHeartbeats 16000000 in
theorem LexWrong_any (s : ByteArray) (n : Int) (behind : ByteArray) (w : World) (hms : s.size ≤ maxLen) (hmb : behind.size ≤ maxLen) (hn0 : 0 ≤ n) (hn1 : n ≤ 255) :
    Calls Try.prog 7 #[.string s, .int .u8 n, .string behind] w fun e w' => e = .returned (.bool true) ∧ Below w.heap.size w w' := by
  unfold maxLen at hms hmb
  by_cases hlong : 1000 < s.size ∨ 1000 < behind.size
  · rcases hlong with hl | hl
    all_goals
      by_cases hl2 : 1000 < s.size
      all_goals
        go_enter Try.func7, Try.ntmps7
        go_wp2_with (go_at_call 8; refine (awake_any _).mono ?_; rintro e w1 ⟨rfl, hb⟩)
        all_goals first
          | omega
          | (go_ret; exact ⟨rfl, hb⟩)
  · have hs : s.size ≤ 1000 := by omega
    have hb : behind.size ≤ 1000 := by omega
    clear hlong
    have HS := Lib.hid (fun W => Lex_any s W)
    by_cases hok : (lexP s.data.toList).2.2 = 0
    · have hcases : n % 22 = 0 ∨ n % 22 = 1 ∨ n % 22 = 2 ∨ n % 22 = 3 ∨ n % 22 = 4 ∨ n % 22 = 5 ∨ n % 22 = 6 ∨ n % 22 = 7 ∨ n % 22 = 8 ∨ n % 22 = 9 ∨ n % 22 = 10 ∨ n % 22 = 11 ∨ n % 22 = 12 ∨ n % 22 = 13 ∨ n % 22 = 14 ∨ n % 22 = 15 ∨ n % 22 = 16 ∨ n % 22 = 17 ∨ n % 22 = 18 ∨ n % 22 = 19 ∨ n % 22 = 20 ∨ n % 22 = 21 := by omega
      clear HS
      rcases hcases with h | h | h | h | h | h | h | h | h | h | h | h | h | h | h | h | h | h | h | h | h | h
      · exact LexWrong_at0 s n behind w hs hb hn0 hn1 hok h
      · exact LexWrong_at1 s n behind w hs hb hn0 hn1 hok h
      · exact LexWrong_at2 s n behind w hs hb hn0 hn1 hok h
      · exact LexWrong_at3 s n behind w hs hb hn0 hn1 hok h
      · exact LexWrong_at4 s n behind w hs hb hn0 hn1 hok h
      · exact LexWrong_at5 s n behind w hs hb hn0 hn1 hok h
      · exact LexWrong_at6 s n behind w hs hb hn0 hn1 hok h
      · exact LexWrong_at7 s n behind w hs hb hn0 hn1 hok h
      · exact LexWrong_at8 s n behind w hs hb hn0 hn1 hok h
      · exact LexWrong_at9 s n behind w hs hb hn0 hn1 hok h
      · exact LexWrong_at10 s n behind w hs hb hn0 hn1 hok h
      · exact LexWrong_at11 s n behind w hs hb hn0 hn1 hok h
      · exact LexWrong_at12 s n behind w hs hb hn0 hn1 hok h
      · exact LexWrong_at13 s n behind w hs hb hn0 hn1 hok h
      · exact LexWrong_at14 s n behind w hs hb hn0 hn1 hok h
      · exact LexWrong_at15 s n behind w hs hb hn0 hn1 hok h
      · exact LexWrong_at16 s n behind w hs hb hn0 hn1 hok h
      · exact LexWrong_at17 s n behind w hs hb hn0 hn1 hok h
      · exact LexWrong_at18 s n behind w hs hb hn0 hn1 hok h
      · exact LexWrong_at19 s n behind w hs hb hn0 hn1 hok h
      · exact LexWrong_at20 s n behind w hs hb hn0 hn1 hok h
      · exact LexWrong_at21 s n behind w hs hb hn0 hn1 hok h
    · have he' : (((lexP s.data.toList).2.2 : Int) == 0) = false := by
        rw [beq_eq_false_iff_ne]
        omega
      have he'' : (((lexP s.data.toList).2.2 : Int) != 0) = true := by
        rw [bne_iff_ne]
        omega
      generalize lexP s.data.toList = R at *
      clear hok
      go_enter Try.func7, Try.ntmps7
      go_wp2_with fail
      refine (HS.out _).mono ?_
      rintro e w1 ⟨v, rfl, hown, hb1⟩
      obtain ⟨A, c, rfl⟩ := own_len hown
      clear hown
      go_wp2_with fail
      refine (awake_any _).mono ?_
      rintro e w2 ⟨rfl, hb2⟩
      go_wp2
      go_ret
      exact ⟨rfl, hb1.trans (hb2.mono hb1.size)⟩
end Go.Proofs.Ytiicfaohplnapaa
