/-
  LexWhole answers true for every text: its walk. No conditions.
-/
import Derived.Test.YtiicfaohplnapaaWholePure
namespace Go.Proofs.Ytiicfaohplnapaa
open Go.RowKit

set_option maxHeartbeats 1000000 in
theorem signOf_any (kind : Int) (sg : List UInt8) (h : (kind, sg) ∈ signs) (w : World) :
    Calls Try.prog 13 #[.int .u8 kind] w fun e w' => e = .returned (.string (bs sg)) ∧ w = w' := by
  simp only [signs, List.mem_cons, Prod.mk.injEq, List.not_mem_nil, or_false] at h
  rcases h with ⟨rfl, rfl⟩ | ⟨rfl, rfl⟩ | ⟨rfl, rfl⟩ | ⟨rfl, rfl⟩ | ⟨rfl, rfl⟩ | ⟨rfl, rfl⟩ | ⟨rfl, rfl⟩ | ⟨rfl, rfl⟩ | ⟨rfl, rfl⟩
  all_goals
    go_enter Try.func13, Try.ntmps13
    go_wp2
    go_ret
    exact ⟨rfl, rfl⟩

theorem after_take {toks : List Tk} {j : Nat} {u : Tk} (h : toks[j]? = some u) : after (toks.take (j + 1)) = if u.kind = 13 then (u.place, true) else (u.place + 1, false) := by
  obtain ⟨hj, e⟩ := List.getElem?_eq_some_iff.1 h
  rw [List.take_succ_eq_append_getElem hj, after_snoc, e]

theorem hasPrefix_true (s : ByteArray) (sg : List UInt8) (p : Nat) (h : sg <+: s.data.toList.drop p) (W : World) :
    Calls Try.prog 12 #[.string (s.extract p s.size), .string (bs sg)] W fun e w' => e = .returned (.bool true) ∧ W = w' := by
  have := Try.strings_HasPrefix (s.extract p s.size) (bs sg) W
  refine this.mono ?_
  rintro e w' ⟨rfl, rfl⟩
  refine ⟨ret_bool ?_, rfl⟩
  rw [extract_list, bs_toList, List.take_of_length_le (by rw [List.length_drop, listLen]; omega)]
  exact List.isPrefixOf_iff_prefix.2 h
theorem quoted_bs (t : List UInt8) : bs (34 :: (t ++ [34])) = ({ data := #[34] } : ByteArray) ++ bs t ++ { data := #[34] } := by
  apply ByteArray.ext
  simp [bs, ByteArray.data_append]
theorem first_byte (s : ByteArray) (p : Nat) (ch : UInt8) (hp : p < s.size) (h : [ch] <+: s.data.toList.drop p) : ∃ h0 : 0 < (s.extract p s.size).size, ((s.extract p s.size)[0]'h0).toNat = ch.toNat := by
  have h0 : 0 < (s.extract p s.size).size := by simp; omega
  refine ⟨h0, ?_⟩
  have e : (s.extract p s.size).data.toList = s.data.toList.drop p := by
    rw [extract_list, List.take_of_length_le (by rw [List.length_drop, listLen]; omega)]
  have hb := byteZ_at (s.extract p s.size) 0 h0
  obtain ⟨r, hr⟩ := h
  rw [e, ← hr] at hb
  have : ((s.extract p s.size)[0]'h0).toNat = (ch.toNat : Int) := hb
  omega

set_option maxRecDepth 1000000 in
set_option maxHeartbeats 8000000 in
theorem LexWhole_any (s : ByteArray) (w : World) (hmax : s.size ≤ maxLen) :
    Calls Try.prog 4 #[.string s] w fun e w' => e = .returned (.bool true) ∧ Below w.heap.size w w' := by
  unfold maxLen at hmax
  by_cases hlong : 4000 < s.size
  · go_enter Try.func4, Try.ntmps4
    go_wp2_with fail
    refine (awake_any _).mono ?_
    rintro e w1 ⟨rfl, hb⟩
    go_wp2
    go_ret
    exact ⟨rfl, hb⟩
  · have hs : s.size ≤ 4000 := by omega
    have HLEN := Lib.hid (listLen s)
    have hwh := lex_whole s.data.toList (by rw [listLen]; omega)
    have hlen := lexP_len s.data.toList
    rw [listLen] at hlen
    have HLEX := Lib.hid (fun W => Lex_any s W)
    generalize lexP s.data.toList = R at *
    obtain ⟨toks, pl, er⟩ := R
    simp only at hwh hlen
    obtain ⟨hw1, hw2⟩ := hwh
    clear hlong
    by_cases he : er = 0
    · subst he
      obtain ⟨hpl, hR, hlast⟩ := hw1 rfl
      subst hpl
      clear hw1 hw2
      go_enter Try.func4, Try.ntmps4
      go_wp2_with fail
      refine (HLEX.out _).mono ?_
      rintro e w1 ⟨v, rfl, hown, hb1⟩
      clear HLEX
      have hrow := TokRow.of_own hown
      obtain ⟨A, c, rfl⟩ := hrow.len
      have HROW := Lib.hid hrow
      have HRISE := Lib.hid hR
      have HLAST := Lib.hid hlast
      clear hrow hown hR hlast
      go_wp2
      generalize hn : toks.length = n at *
      have HN := Lib.hid hn
      clear hn
      go_loopw [6, 40] (fun b i wr => ∃ k : Nat, k ≤ n ∧ i = .int .i64 k ∧ b = .int .i64 (after (toks.take k)).1 ∧ Below w1.heap.size w1 wr) (fun _ i _ => n - (intOf i).toNat)
      case atStart => exact ⟨0, Nat.zero_le _, rfl, rfl, Below.refl _ _⟩
      case round =>
        obtain ⟨k, hk, rfl, rfl, hbel⟩ := hrel
        by_cases hlt : k < n
        · obtain ⟨t, ht⟩ : ∃ t, toks[k]? = some t := ⟨_, List.getElem?_eq_getElem (by rw [HN.out]; exact hlt)⟩
          obtain ⟨hbef, hname, p, hp, hpl, hcase⟩ := HRISE.out k t ht
          obtain ⟨g, off, rfl, hg, a0, a1, a2, a3, a4, a5, a6⟩ := (HROW.out.below hbel).at_ ht
          have HAFT := Lib.hid (after_take ht)
          rw [HLEN.out] at hpl
          obtain ⟨t0, t1, t2, t3, t4, t5, t6⟩ := t
          simp only [KindOk] at hbef hname hp hcase HAFT a0 a1 a2 a3 a4 a5 a6
          subst hp
          generalize haf : after (toks.take k) = af at *
          obtain ⟨B, nm⟩ := af
          have HAF := Lib.hid haf
          clear haf ht
          simp only at hbef hname
          rcases Nat.eq_zero_or_pos k with hk0 | hk0
          · subst hk0
            simp only [Nat.zero_mul, Nat.add_zero] at a0 a1 a2 a3 a4 a5 a6
            have hnm : nm = true := by
              have := congrArg Prod.snd HAF.out
              exact this.symm
            have h1 : t0 = 1 := hname hnm
            rcases hcase with h13 | ⟨sg, hsg, hpre, h1 | h10 | h9 | hsig⟩
            · omega
            · obtain ⟨rfl, rfl⟩ := h1
              have hne1 : ¬ (bs sg).toList = [] := by rw [ByteArray.toList_eq, bs_toList]; exact hsg
              have hem1 : (bs sg).toList.isEmpty = false := by rw [List.isEmpty_eq_false_iff]; exact hne1
              have HHP := Lib.hid (fun W => hasPrefix_true s sg p hpre W)
              clear hpre hsg hname
              go_wp2_with (go_at_call 12; refine (HHP.out _).mono ?_; rintro e w' ⟨rfl, rfl⟩)
              go_roundw
              case rel => exact ⟨0 + 1, by omega, by go_num, by rw [HAFT.out]; rfl, hbel.alloc hbel.size _⟩
              case measure => simp [intOf]; omega
            · omega
            · omega
            · exfalso
              simp only [signs, List.mem_cons, Prod.mk.injEq, List.not_mem_nil, or_false] at hsig
              omega
          · obtain ⟨j, rfl⟩ : ∃ j, k = j + 1 := ⟨k - 1, by omega⟩
            obtain ⟨u, hu⟩ : ∃ u, toks[j]? = some u := ⟨_, List.getElem?_eq_getElem (by rw [HN.out]; omega)⟩
            obtain ⟨g', off', e', _, b0, _, _, _, _, _, _⟩ := (HROW.out.below hbel).at_ hu
            injection e' with e'
            injection e' with e1 e2
            subst e1; subst e2
            have HU := Lib.hid ((after_take hu).symm.trans HAF.out)
            clear hu
            by_cases hu13 : u.kind = 13
            · have hnm : nm = true := by
                have := HU.out
                rw [if_pos hu13] at this
                exact (congrArg Prod.snd this).symm
              have h1 : t0 = 1 := hname hnm
              rw [hu13] at b0
              rcases hcase with h13 | ⟨sg, hsg, hpre, h1 | h10 | h9 | hsig⟩
              · omega
              · obtain ⟨rfl, rfl⟩ := h1
                have hne1 : ¬ (bs sg).toList = [] := by rw [ByteArray.toList_eq, bs_toList]; exact hsg
                have hem1 : (bs sg).toList.isEmpty = false := by rw [List.isEmpty_eq_false_iff]; exact hne1
                have HHP := Lib.hid (fun W => hasPrefix_true s sg p hpre W)
                clear hpre hsg hname
                go_wp2_with (go_at_call 12; refine (HHP.out _).mono ?_; rintro e w' ⟨rfl, rfl⟩)
                go_roundw
                case rel => exact ⟨j + 1 + 1, by omega, by go_num, by rw [HAFT.out]; rfl, hbel.alloc hbel.size _⟩
                case measure => simp [intOf]; omega
              · omega
              · omega
              · exfalso
                simp only [signs, List.mem_cons, Prod.mk.injEq, List.not_mem_nil, or_false] at hsig
                omega
            · have hu13b : (u.kind == 13) = false := by
                rw [beq_eq_false_iff_ne]
                exact hu13
              generalize u.kind = uk at *
              clear hu13 HU
              rcases hcase with h13 | ⟨sg, hsg, hpre, h1 | h10 | h9 | hsig⟩
              · subst h13
                go_wp2
                go_roundw
                case rel => exact ⟨j + 1 + 1, by omega, by go_num, by rw [HAFT.out]; rfl, hbel.alloc hbel.size _⟩
                case measure => simp [intOf]; omega
              · obtain ⟨rfl, rfl⟩ := h1
                have hne1 : ¬ (bs sg).toList = [] := by rw [ByteArray.toList_eq, bs_toList]; exact hsg
                have hem1 : (bs sg).toList.isEmpty = false := by rw [List.isEmpty_eq_false_iff]; exact hne1
                have HHP := Lib.hid (fun W => hasPrefix_true s sg p hpre W)
                clear hpre hsg hname
                go_wp2_with (go_at_call 12; refine (HHP.out _).mono ?_; rintro e w' ⟨rfl, rfl⟩)
                go_roundw
                case rel => exact ⟨j + 1 + 1, by omega, by go_num, by rw [HAFT.out]; rfl, hbel.alloc hbel.size _⟩
                case measure => simp [intOf]; omega
              · obtain ⟨rfl, rfl⟩ := h10
                have HHP := Lib.hid (fun W => hasPrefix_true s _ p hpre W)
                rw [quoted_bs] at HHP
                have ht2 : (bs t2).size ≤ 4000 := by
                  have := hpre.length_le
                  rw [List.length_drop, HLEN.out, List.length_cons, List.length_append] at this
                  rw [bs_size]
                  omega
                clear hpre hsg hname
                go_wp2_with (go_at_call 12; refine (HHP.out _).mono ?_; rintro e w' ⟨rfl, rfl⟩)
                go_roundw
                case rel => exact ⟨j + 1 + 1, by omega, by go_num, by rw [HAFT.out]; rfl, hbel.alloc hbel.size _⟩
                case measure => simp [intOf]; omega
              · obtain ⟨rfl, ⟨ch, rfl, hch⟩, m1, m2, m3, m4, m5⟩ := h9
                have hp2 : p < s.size := by
                  have := hpre.length_le
                  rw [List.length_drop, HLEN.out, List.length_singleton] at this
                  omega
                have hp3 : 0 < s.size - p := by omega
                obtain ⟨hq0, hq1⟩ := first_byte s p ch hp2 hpre
                have hne9 : ¬ (s.extract p s.size).toList = [] := by
                  rw [ByteArray.toList_eq, extract_list]
                  intro e
                  have := congrArg List.length e
                  rw [List.length_take, List.length_drop, HLEN.out] at this
                  simp at this
                  omega
                have hem9 : (s.extract p s.size).toList.isEmpty = false := by
                  rw [List.isEmpty_eq_false_iff]
                  exact hne9
                clear hpre hsg hname
                simp only [timesZ, digitZ, Bool.or_eq_true, Bool.and_eq_true, decide_eq_true_eq, beq_iff_eq] at hch
                have hor : (0 ≤ t4 ∧ t3 ≤ t4) ∨ t4 < 0 := by omega
                rcases hch with hch | hch
                · have hq3 : (((s.extract p s.size)[0]'hq0).toNat : Int) ≤ 57 := by rw [hq1]; omega
                  have hq4 : (48 : Int) ≤ (((s.extract p s.size)[0]'hq0).toNat : Int) := by rw [hq1]; omega
                  have hq5 : ((((s.extract p s.size)[0]'hq0).toNat : Int) != 42) = true := by rw [bne_iff_ne, hq1]; omega
                  have hq6 : ¬ (((s.extract p s.size)[0]'hq0).toNat : Int) = 42 := by rw [hq1]; omega
                  clear hq1
                  rcases hor with ⟨ho1, ho2⟩ | ho1
                  · go_wp2
                    go_roundw
                    case rel => exact ⟨j + 1 + 1, by omega, by go_num, by rw [HAFT.out]; rfl, hbel.alloc hbel.size _⟩
                    case measure => simp [intOf]; omega
                  · go_wp2
                    go_roundw
                    case rel => exact ⟨j + 1 + 1, by omega, by go_num, by rw [HAFT.out]; rfl, hbel.alloc hbel.size _⟩
                    case measure => simp [intOf]; omega
                · have hq2 : (((s.extract p s.size)[0]'hq0).toNat : Int) = 42 := by rw [hq1]; exact hch
                  clear hq1
                  rcases hor with ⟨ho1, ho2⟩ | ho1
                  · go_wp2
                    go_roundw
                    case rel => exact ⟨j + 1 + 1, by omega, by go_num, by rw [HAFT.out]; rfl, hbel.alloc hbel.size _⟩
                    case measure => simp [intOf]; omega
                  · go_wp2
                    go_roundw
                    case rel => exact ⟨j + 1 + 1, by omega, by go_num, by rw [HAFT.out]; rfl, hbel.alloc hbel.size _⟩
                    case measure => simp [intOf]; omega
              · have HHP := Lib.hid (fun W => hasPrefix_true s sg p hpre W)
                have HSG := Lib.hid (fun W => signOf_any t0 sg hsig W)
                have hne1 : ¬ (bs sg).toList = [] := by rw [ByteArray.toList_eq, bs_toList]; exact hsg
                have hem1 : (bs sg).toList.isEmpty = false := by rw [List.isEmpty_eq_false_iff]; exact hne1
                have hks : t0 ≠ 1 ∧ t0 ≠ 10 ∧ t0 ≠ 9 ∧ t0 ≠ 13 := by
                  simp only [signs, List.mem_cons, Prod.mk.injEq, List.not_mem_nil, or_false] at hsig
                  omega
                have k1 : (t0 == 1) = false := by rw [beq_eq_false_iff_ne]; exact hks.1
                have k2 : (t0 == 10) = false := by rw [beq_eq_false_iff_ne]; exact hks.2.1
                have k3 : (t0 == 9) = false := by rw [beq_eq_false_iff_ne]; exact hks.2.2.1
                have k4 : (t0 == 13) = false := by rw [beq_eq_false_iff_ne]; exact hks.2.2.2
                have k5 : (t0 != 13) = true := by rw [bne_iff_ne]; exact hks.2.2.2
                have HK := Lib.hid hks
                clear hpre hsg hname hsig hks
                go_wp2_with (first | (go_at_call 12; refine (HHP.out _).mono ?_; rintro e w' ⟨rfl, rfl⟩) | (go_at_call 13; refine (HSG.out _).mono ?_; rintro e w' ⟨rfl, rfl⟩))
                go_roundw
                case rel => exact ⟨j + 1 + 1, by omega, by go_num, by rw [HAFT.out, if_neg HK.out.2.2.2], hbel.alloc hbel.size _⟩
                case measure => simp [intOf]; omega
        · obtain rfl : k = n := by omega
          clear HRISE
          rcases HLAST.out with hnil | ⟨ts, hts⟩
          · obtain rfl : k = 0 := by rw [← HN.out, hnil]; rfl
            clear hnil
            go_wp2_with fail
            refine (awake_any _).mono ?_
            rintro e w3 ⟨rfl, hb3⟩
            go_wp2
            go_ret
            exact ⟨rfl, hb1.trans ((hbel.mono hb1.size).trans (hb3.mono (Nat.le_trans hb1.size hbel.size)))⟩
          · have hk1 : k = ts.length + 1 := by rw [← HN.out, hts]; simp
            have hat : toks[ts.length]? = some (endTok s.data.toList.length) := by rw [hts]; simp
            obtain ⟨g, off, rfl, hg, a0, a1, a2, a3, a4, a5, a6⟩ := (HROW.out.below hbel).at_ hat
            rw [HLEN.out] at a1
            have a2' : wr.cell? ⟨g, off + ts.length * 7 + 2, none⟩ = some (.string ⟨#[]⟩) := a2
            simp only [endTok] at a0 a1 a3 a4 a5 a6
            clear a2 hat
            generalize ts.length = m at *
            subst hk1
            have HTS := Lib.hid hts
            clear hts
            go_wp2_with fail
            refine (awake_any _).mono ?_
            rintro e w3 ⟨rfl, hb3⟩
            go_wp2
            go_ret
            exact ⟨rfl, hb1.trans ((hbel.mono hb1.size).trans (hb3.mono (Nat.le_trans hb1.size hbel.size)))⟩
    · obtain ⟨ht, hp⟩ := hw2 he
      subst ht
      have he' : ((er : Int) == 0) = false := by
        rw [beq_eq_false_iff_ne]
        omega
      have he'' : ((er : Int) != 0) = true := by
        rw [bne_iff_ne]
        omega
      rw [HLEN.out] at hp
      clear hw1 hw2 he
      go_enter Try.func4, Try.ntmps4
      go_wp2_with fail
      refine (HLEX.out _).mono ?_
      rintro e w1 ⟨v, rfl, hown, hb1⟩
      obtain ⟨A, c, rfl⟩ := own_len hown
      clear hown
      go_wp2_with fail
      refine (awake_any _).mono ?_
      rintro e w2 ⟨rfl, hb2⟩
      go_wp2
      go_ret
      exact ⟨rfl, hb1.trans (hb2.mono hb1.size)⟩
end Go.Proofs.Ytiicfaohplnapaa
