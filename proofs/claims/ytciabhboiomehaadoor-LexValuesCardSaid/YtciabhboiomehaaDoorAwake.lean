/-
  The contract of frankinglaw01's awake (the chapter's examples): it answers true. No conditions.
-/
import Derived.Test.YtciabhboiomehaaDoorLowT
import Derived.Test.YtciabhboiomehaaDoorLow
import Derived.Test.YtciabhboiomehaaDoorLowB
namespace Go.Proofs.YtciabhboiomehaaDoor
open Go.RowKit

def bytesA : List UInt8 := [97, 32, 61, 32, 49, 42, 51, 98, 32, 59, 32, 120]
def bytesB : List UInt8 := [97, 32, 61, 32, 34, 98, 34, 32, 47, 32, 37, 120, 52, 49, 45, 53, 65, 32, 37, 100, 49, 51, 46, 49, 48, 32, 42, 32, 53, 32, 50, 42]
def toksA : List Tk := [{ kind := 1, text := [97] }, { kind := 2, place := 2 }, { kind := 9, place := 4, mn := 1, mx := 3 }, { kind := 1, place := 7, text := [98] }, { kind := 13, place := 12 }]
def toksB : List Tk := [{ kind := 1, text := [97] }, { kind := 2 }, { kind := 10, text := [98] }, { kind := 4 }, { kind := 12, lo := 65, hi := 90 }, { kind := 11, text := [13, 10] }, { kind := 9, mx := -1 }, { kind := 9, mn := 5, mx := 5 }, { kind := 9, mn := 2, mx := -1 }, { kind := 13 }]

theorem lex_A : lexP bytesA = (toksA, 0, 0) := by decide +kernel
theorem lex_B : (lexP bytesB).2 = (0, 0) ∧ (lexP bytesB).1.map bare = toksB.map bare ∧ (lexP bytesB).1.length = 10 := by decide +kernel
theorem lex_nil : lexP [] = ([], 0, 0) := by decide +kernel
theorem lex_1 : lexP [61, 32, 97] = ([], 0, 10) := by decide +kernel
theorem lex_2 : lexP [97, 32, 61, 32, 53, 42, 51, 98] = ([], 4, 13) := by decide +kernel
theorem lex_3 : lexP [97, 32, 61, 32, 60, 98, 62] = ([], 4, 16) := by decide +kernel
theorem lex_4 : lexP [97, 32, 61, 32, 37, 120, 49, 48, 48] = ([], 4, 15) := by decide +kernel
theorem lex_5 : lexP [97, 32, 61, 32, 36] = ([], 4, 11) := by decide +kernel

theorem Lex_at (l : List UInt8) (R : List Tk × Nat × Nat) (h : lexP l = R) (w : World) :
    Calls Tryd.prog 8 #[.string (bs l)] w fun e w' => Handed w w' R e := by
  have := Lex_any (bs l) w
  rw [bs_toList, h] at this
  exact this

/-- what remains of a row that is the call's own -/
theorem own_len {w : World} {base : Nat} {v : Value} {toks : List Tk} (h : w.ownsRow base 35 7 v toks.length (toksCells toks)) : ∃ A c, v = .slice A toks.length c := (TokRow.of_own h).len

set_option maxHeartbeats 1000000 in
theorem fails_true (l : List UInt8) (at_ er : Nat) (h : lexP l = ([], at_, er)) (w : World) :
    Calls Tryd.prog 11 #[.string (bs l), .int .i64 at_, .int .i64 er] w fun e w' => e = .returned (.bool true) ∧ Below w.heap.size w w' := by
  go_enter Tryd.func11, Tryd.ntmps11
  go_wp2_with fail
  refine (Lex_at l _ h _).mono ?_
  rintro e w1 ⟨v, rfl, hown, hb⟩
  obtain ⟨A, c, rfl⟩ := own_len hown
  clear hown
  go_wp2
  go_ret
  exact ⟨rfl, hb⟩

theorem TokRow.lit (w : World) (cs : Array Value) (g n : Nat) (toks : List Tk) (h : Blk w g 35 cs) (hcs : cs.toList = toksCells toks) (hn : n = toks.length) (c : Nat) : TokRow w (.slice (some ⟨g, 0, none⟩) n c) toks := by
  subst hn
  refine ⟨_, _, rfl, fun _ => ⟨g, 0, rfl, h.lt, fun j u hu => ?_⟩⟩
  rw [Nat.zero_add, h.cell j, ← hu, ← hcs]
  simp

set_option maxRecDepth 100000 in
set_option maxHeartbeats 4000000 in
theorem awake_any (w : World) :
    Calls Tryd.prog 4 #[] w fun e w' => e = .returned (.bool true) ∧ Below w.heap.size w w' := by
  go_enter Tryd.func4, Tryd.ntmps4
  go_wp2_with fail
  refine (Lex_at bytesA _ lex_A _).mono ?_
  rintro e w1 ⟨v1, rfl, hown1, hb1⟩
  have hr1 := TokRow.of_own hown1
  obtain ⟨A1, c1, rfl⟩ := hr1.len
  have HR1 := Lib.hid hr1
  clear hr1 hown1
  go_wp2_with fail
  refine (Lex_at bytesB _ rfl _).mono ?_
  obtain ⟨hB0, hB1, hB2⟩ := lex_B
  generalize lexP bytesB = RB at *
  obtain ⟨tb, pb, eb⟩ := RB
  simp only at hB0 hB1 hB2
  injection hB0 with hp he
  subst hp; subst he
  rintro e w2 ⟨v2, rfl, hown2, hb2⟩
  have hr2 := TokRow.of_own hown2
  obtain ⟨A2, c2, rfl⟩ := hr2.len
  have HR2 := Lib.hid hr2
  have HB1 := Lib.hid hB1
  have HB2 := Lib.hid hB2
  clear hr2 hown2 hB1 hB2
  go_wp2_with fail
  refine (Lex_at [] _ lex_nil _).mono ?_
  rintro e w3 ⟨v3, rfl, hown3, hb3⟩
  obtain ⟨A3, c3, rfl⟩ := own_len hown3
  clear hown3
  go_wp2_with fail
  have HB3 := Lib.hid (hb1.trans ((hb2.mono hb1.size).trans (hb3.mono (Nat.le_trans hb1.size hb2.size))))
  have hrA := Lib.hid ((HR1.out.below hb2).below hb3)
  have hrB := Lib.hid (HR2.out.below hb3)
  clear hb1 hb2 hb3 HR1 HR2
  refine (Toks_same _ _ toksA _ (by decide) (hrA.out.below ((Below.refl _ _).alloc (Nat.le_refl _) _)) (TokRow.lit _ _ _ 5 toksA (Blk.new _ _ _) rfl rfl 5)).mono ?_
  rintro e w4 ⟨rfl, m4, hm4⟩
  have hb4 : Below w3.heap.size w3 w4 := by rw [hm4]; exact below_drewN ((Below.refl _ _).alloc (Nat.le_refl _) _) _
  have HB4 := Lib.hid (HB3.out.trans (hb4.mono HB3.out.size))
  have hrB4 := Lib.hid (hrB.out.below hb4)
  clear hm4 hb4 hrA hrB HB3
  go_wp2_with fail
  refine (Alike_same _ _ tb toksB _ (by rw [HB2.out]; decide) HB1.out (hrB4.out.below ((Below.refl _ _).alloc (Nat.le_refl _) _)) (TokRow.lit _ _ _ 10 toksB (Blk.new _ _ _) rfl rfl 10)).mono ?_
  rintro e w5 ⟨rfl, hb5⟩
  have HB5 := Lib.hid (HB4.out.trans (((Below.refl _ _).alloc HB4.out.size _).trans (hb5.mono (by have := HB4.out.size; simp; omega))))
  clear hb5 hrB4 HB4
  go_wp2_with fail
  refine (fails_true [61, 32, 97] 0 10 lex_1 _).mono ?_
  rintro e w6 ⟨rfl, hb6⟩
  go_wp2_with fail
  refine (fails_true [97, 32, 61, 32, 53, 42, 51, 98] 4 13 lex_2 _).mono ?_
  rintro e w7 ⟨rfl, hb7⟩
  go_wp2_with fail
  refine (fails_true [97, 32, 61, 32, 60, 98, 62] 4 16 lex_3 _).mono ?_
  rintro e w8 ⟨rfl, hb8⟩
  go_wp2_with fail
  refine (fails_true [97, 32, 61, 32, 37, 120, 49, 48, 48] 4 15 lex_4 _).mono ?_
  rintro e w9 ⟨rfl, hb9⟩
  go_wp2_with fail
  refine (fails_true [97, 32, 61, 32, 36] 4 11 lex_5 _).mono ?_
  rintro e w10 ⟨rfl, hb10⟩
  go_wp2
  go_ret
  have s5 := HB5.out.size
  have s6 := hb6.size
  have s7 := hb7.size
  have s8 := hb8.size
  have s9 := hb9.size
  exact ⟨rfl, HB5.out.trans ((hb6.mono (by omega)).trans ((hb7.mono (by omega)).trans ((hb8.mono (by omega)).trans ((hb9.mono (by omega)).trans (hb10.mono (by omega))))))⟩
end Go.Proofs.YtciabhboiomehaaDoor
