/-
  The contracts of frankingref01's quoted and times. Conditions: a text of at most 65536 bytes, a place within it.
-/
import Derived.Test.YtkidhffloaonaaaRefB
namespace Go.Proofs.Ytkidhffloaonaaa
open Go.RowKit

def tokV (t : Tk) : Value := .agg #[.int .u8 t.kind, .int .i64 t.place, .string (bs t.text), .int .i64 t.mn, .int .i64 t.mx, .int .u8 t.lo, .int .u8 t.hi]
/-- a piece as the document's own answer tells it: the token, the place behind it, or the error's, and the error -/
def refV (p : Pc) (at_ : Nat) : Value := .tuple #[tokV p.tok, .int .i64 (if p.err = 0 then (at_ : Int) + p.size else (at_ : Int) + p.bad), .int .i64 p.err]
def quotedV (r : List UInt8) : Option Nat → Value
  | some i => .tuple #[.string (bs (r.take i)), .bool true]
  | none => .tuple #[.string ⟨#[]⟩, .bool false]

set_option maxHeartbeats 2000000 in
theorem refQuoted_any (s : ByteArray) (at_ : Nat) (hs : s.size ≤ 65536) (hat : at_ < s.size) (w : World) :
    Calls Try.prog 54 #[.string s, .int .i64 at_] w fun e w' => e = .returned (quotedV (s.data.toList.drop (at_ + 1)) (quoteAt (s.data.toList.drop (at_ + 1)))) ∧ w = w' := by
  have HLEN := Lib.hid (listLen s)
  have HBY := Lib.hid (fun k => byteZ_drop s.data.toList (at_ + 1) k)
  have hrl : (s.data.toList.drop (at_ + 1)).length = s.size - (at_ + 1) := by rw [List.length_drop, listLen]
  have HX := Lib.hid (fun b => extract_list s (at_ + 1) b)
  generalize s.data.toList.drop (at_ + 1) = r at *
  have HRL := Lib.hid hrl
  clear hrl
  generalize hQ : quoteAt r = Q at *
  have HQ0 : Hid (quoteAt r = (quoteAt (r.drop 0)).map (· + 0)) := by show _ = _; simp
  have HQ := Lib.hid hQ
  clear hQ
  go_enter Try.func54, Try.ntmps54
  go_wp2
  go_loop [6] (fun i => ∃ k : Nat, at_ + 1 + k ≤ s.size ∧ i = .int .i64 ((at_ : Int) + 1 + k) ∧ Hid (quoteAt r = (quoteAt (r.drop k)).map (· + k))) (fun i => s.size - (intOf i).toNat)
  case atStart => exact ⟨0, by omega, by simp, HQ0⟩
  case round =>
    clear HQ0
    obtain ⟨k, hk, rfl, HK⟩ := hrel
    by_cases hlt : at_ + 1 + k < s.size
    · have hkr : k < r.length := by rw [HRL.out]; omega
      have hb := byteZ_at s (at_ + 1 + k) hlt
      rw [← HBY.out k] at hb
      have hnn : ((at_ : Int) + 1 + k).toNat = at_ + 1 + k := by omega
      have hlo := byteZ_lo r k
      have hhi := byteZ_hi r k
      by_cases h34 : byteZ r k = 34
      · have HY := Lib.hid (quoteAt_yes r k hkr h34 HK.out)
        rw [h34] at hb
        have hx := HX.out (at_ + 1 + k)
        rw [Nat.add_sub_cancel_left] at hx
        have HXX : Hid (s.extract (at_ + 1) (at_ + 1 + k) = bs (r.take k)) := by
          show _ = _
          rw [← hx, bs_of]
        clear hx HK h34 hlo hhi
        go_wp2
        go_ret2
        refine ⟨?_, rfl⟩
        rw [← HQ.out, HY.out]
        show _ = Ending.returned (.tuple #[.string (bs (r.take k)), .bool true])
        rw [← HXX.out]
        rfl
      · by_cases hok : 32 ≤ byteZ r k ∧ byteZ r k ≤ 126
        · obtain ⟨ho1, ho2⟩ := hok
          have HN := Lib.hid (quoteAt_go r k hkr h34 ho1 ho2 HK.out)
          have c1 : (32 : Int) ≤ ((s[at_ + 1 + k]'hlt).toNat : Int) := by rw [hb]; exact ho1
          have c2 : ((s[at_ + 1 + k]'hlt).toNat : Int) ≤ 126 := by rw [hb]; exact ho2
          have c3 : (((s[at_ + 1 + k]'hlt).toNat : Int) == 34) = false := by rw [beq_eq_false_iff_ne, hb]; exact h34
          clear HK hb h34 hlo hhi
          go_wp2
          go_round
          case rel => exact ⟨k + 1, by omega, by go_num, HN⟩
          case measure => simp [intOf]; omega
        · have hbad : byteZ r k < 32 ∨ 126 < byteZ r k := by omega
          have HY := Lib.hid (quoteAt_no r k hkr hbad HK.out)
          have c3 : (((s[at_ + 1 + k]'hlt).toNat : Int) == 34) = false := by rw [beq_eq_false_iff_ne, hb]; exact h34
          rw [← hb] at hbad
          clear HK hb h34 hlo hhi hok
          rcases hbad with hb1 | hb1
          all_goals
            go_wp2
            go_ret2
            exact ⟨by rw [← HQ.out, HY.out]; rfl, rfl⟩
    · have HY := Lib.hid (quoteAt_end r k (by rw [HRL.out]; omega) HK.out)
      clear HK
      go_wp2
      go_ret2
      exact ⟨by rw [← HQ.out, HY.out]; rfl, rfl⟩

theorem below10 (n : Int) (h0 : 0 ≤ n) (h1 : n ≤ 255) : digitBelow 10 n = digitZ n := by
  unfold digitBelow digitOfZ
  by_cases hd : digitZ n = true
  · have hd' := hd
    simp only [digitZ, Bool.and_eq_true, decide_eq_true_eq] at hd'
    rw [if_pos hd, hd]
    simp
    omega
  · rw [if_neg hd]
    have : digitZ n = false := by simpa using hd
    rw [this]
    simp only [decide_eq_false_iff_not]
    split
    · omega
    · split <;> omega
theorem span10 : ∀ l : List UInt8, spanZ (digitBelow 10) l = spanZ digitZ l := by
  intro l
  induction l with
  | nil => rfl
  | cons c r ih =>
    have := c.toNat_lt
    rw [spanZ, spanZ, ih, below10 c.toNat (by omega) (by omega)]

theorem ret_refV {p : Pc} {at_ : Nat} {x : Int} (hx : x = if p.err = 0 then (at_ : Int) + p.size else (at_ : Int) + p.bad) : Ending.returned (.tuple #[tokV p.tok, .int .i64 x, .int .i64 p.err]) = .returned (refV p at_) := by rw [hx]; rfl

def zeroTok : Array Value := #[.int .u8 0, .int .i64 0, .string ⟨#[]⟩, .int .i64 0, .int .i64 0, .int .u8 0, .int .u8 0]

set_option maxHeartbeats 4000000 in
theorem refTimes_any (s : ByteArray) (at_ : Nat) (hs : s.size ≤ 65536) (hat : at_ < s.size) (w : World) :
    Calls Try.prog 53 #[.string s, .int .i64 at_] w fun e w' => e = .returned (refV (timesP (s.data.toList.drop at_)) at_) ∧ Below w.heap.size w w' := by
  have HLEN := Lib.hid (listLen s)
  have HT' := timesP.eq_1 (s.data.toList.drop at_)
  have HDG := Lib.hid (fun W => refDigits_any s at_ 10 hs (by omega) (by omega) (by omega) W)
  rw [span10] at HDG
  have hdz := digitsZ.eq_1 s.data.toList at_ 10
  rw [span10] at hdz
  rw [hdz] at HDG
  clear hdz
  have hle := spanZ_le digitZ (s.data.toList.drop at_)
  rw [List.length_drop, HLEN.out] at hle
  have hst : ∀ n, n = spanZ digitZ (s.data.toList.drop at_) → standsB (s.data.toList.drop at_) n 42 = (decide (at_ + n < s.size) && (byteZ s.data.toList (at_ + n) == 42)) := by
    intro n _
    unfold standsB
    rw [byteZ_drop, List.length_drop, HLEN.out]
    congr 1
    simp only [decide_eq_decide]
    omega
  generalize hP : timesP (s.data.toList.drop at_) = P at *
  clear hP
  have hst2 := hst _ rfl
  clear hst
  have hdd : ∀ n, (s.data.toList.drop at_).drop (n + 1) = s.data.toList.drop (at_ + n + 1) := by
    intro n
    rw [List.drop_drop, Nat.add_assoc]
  rw [hdd] at HT'
  clear hdd
  have hn4 : spanZ digitZ (s.data.toList.drop at_) ≤ 4 → 0 ≤ numberZ 10 ((s.data.toList.drop at_).take (spanZ digitZ (s.data.toList.drop at_))) ∧ numberZ 10 ((s.data.toList.drop at_).take (spanZ digitZ (s.data.toList.drop at_))) ≤ 9999 := fun h => number4 _ _ (Nat.le_refl _) h
  generalize numberZ 10 ((s.data.toList.drop at_).take (spanZ digitZ (s.data.toList.drop at_))) = v at *
  generalize spanZ digitZ (s.data.toList.drop at_) = n at *
  by_cases h4 : 4 < n
  · rw [if_pos h4] at HT'
    have HT := Lib.hid HT'
    clear HT' hn4 hst2
    generalize (if 8 < n then (-1 : Int) else v) = dd at *
    go_enter Try.func53, Try.ntmps53
    go_wp2_with (go_at_call 77; refine (HDG.out _).mono ?_; rintro e w' ⟨rfl, rfl⟩)
    exact bodyPost_ret (v := .tuple #[tokV ({ bad := 0, err := 12 } : Pc).tok, .int .i64 ((at_ : Int)), .int .i64 ({ bad := 0, err := 12 } : Pc).err]) (by simp [results, Try.results53, go_sem, tokV]; rfl) rfl ⟨by rw [HT.out]; exact ret_refV (by simp; try omega), (Below.refl _ _).alloc (Nat.le_refl _) _⟩
  · rw [if_neg h4] at HT'
    have h4' : n ≤ 4 := by omega
    rw [if_neg (by omega)] at HDG
    obtain ⟨hv0, hv1⟩ := hn4 h4'
    clear hn4 h4
    rw [hst2] at HT'
    clear hst2
    by_cases hlt : at_ + n < s.size
    · have HB := Lib.hid (byteZ_at s (at_ + n) hlt)
      rw [← HB.out] at HT'
      have hdl : decide (at_ + n < s.size) = true := by simp; omega
      rw [hdl, Bool.true_and] at HT'
      by_cases h42 : ((s[at_ + n]'hlt).toNat : Int) = 42
      · rw [if_pos (by rw [h42]; rfl)] at HT'
        have HDG2 := Lib.hid (fun W => refDigits_any s (at_ + n + 1) 10 hs (by omega) (by omega) (by omega) W)
        rw [span10] at HDG2
        have hdz := digitsZ.eq_1 s.data.toList (at_ + n + 1) 10
        rw [span10] at hdz
        rw [hdz] at HDG2
        have hle2 := spanZ_le digitZ (s.data.toList.drop (at_ + n + 1))
        rw [List.length_drop, HLEN.out] at hle2
        have hm4 : spanZ digitZ (s.data.toList.drop (at_ + n + 1)) ≤ 4 → 0 ≤ numberZ 10 ((s.data.toList.drop (at_ + n + 1)).take (spanZ digitZ (s.data.toList.drop (at_ + n + 1)))) ∧ numberZ 10 ((s.data.toList.drop (at_ + n + 1)).take (spanZ digitZ (s.data.toList.drop (at_ + n + 1)))) ≤ 9999 := fun h => number4 _ _ (Nat.le_refl _) h
        have hmz : spanZ digitZ (s.data.toList.drop (at_ + n + 1)) = 0 → numberZ 10 ((s.data.toList.drop (at_ + n + 1)).take (spanZ digitZ (s.data.toList.drop (at_ + n + 1)))) = 0 := by
          intro h
          rw [h]
          rfl
        generalize numberZ 10 ((s.data.toList.drop (at_ + n + 1)).take (spanZ digitZ (s.data.toList.drop (at_ + n + 1)))) = u at *
        generalize spanZ digitZ (s.data.toList.drop (at_ + n + 1)) = m at *
        clear hdz
        rw [show ((at_ + n + 1 : Nat) : Int) = (at_ : Int) + n + 1 from by omega] at HDG2
        by_cases hm : 4 < m
        · rw [if_pos hm] at HT'
          have HT := Lib.hid HT'
          clear HT' hm4 hmz
          generalize (if 8 < m then (-1 : Int) else u) = dd at *
          go_enter Try.func53, Try.ntmps53
          go_wp2_with fail
          refine (HDG.out _).mono ?_
          rintro e w' ⟨rfl, rfl⟩
          go_wp2_with fail
          refine (HDG2.out _).mono ?_
          rintro e w' ⟨rfl, rfl⟩
          go_wp2
          exact bodyPost_ret (v := .tuple #[tokV ({ bad := n + 1, err := 12 } : Pc).tok, .int .i64 ((at_ : Int) + n + 1), .int .i64 ({ bad := n + 1, err := 12 } : Pc).err]) (by simp [results, Try.results53, go_sem, tokV]; rfl) rfl ⟨by rw [HT.out]; exact ret_refV (by simp; try omega), (Below.refl _ _).alloc (Nat.le_refl _) _⟩
        · rw [if_neg hm] at HT'
          have hm' : m ≤ 4 := by omega
          rw [if_neg (by omega)] at HDG2
          obtain ⟨hu0, hu1⟩ := hm4 hm'
          clear hm4 hm
          by_cases hm0 : 0 < m
          · rw [if_pos hm0] at HT'
            clear hmz
            have hmb : ((m : Int) == 0) = false := by rw [beq_eq_false_iff_ne]; omega
            by_cases huv : u < v
            · rw [if_pos huv] at HT'
              have HT := Lib.hid HT'
              clear HT'
              go_enter Try.func53, Try.ntmps53
              go_wp2_with fail
              refine (HDG.out _).mono ?_
              rintro e w' ⟨rfl, rfl⟩
              go_wp2_with fail
              refine (HDG2.out _).mono ?_
              rintro e w' ⟨rfl, rfl⟩
              go_wp2
              exact bodyPost_ret (v := .tuple #[tokV ({ bad := 0, err := 13 } : Pc).tok, .int .i64 ((at_ : Int)), .int .i64 ({ bad := 0, err := 13 } : Pc).err]) (by simp [results, Try.results53, go_sem, tokV]; rfl) rfl ⟨by rw [HT.out]; exact ret_refV (by simp; try omega), (Below.refl _ _).alloc (Nat.le_refl _) _⟩
            · rw [if_neg huv] at HT'
              have HT := Lib.hid HT'
              have huv' : v ≤ u := by omega
              clear HT' huv
              go_enter Try.func53, Try.ntmps53
              go_wp2_with fail
              refine (HDG.out _).mono ?_
              rintro e w' ⟨rfl, rfl⟩
              go_wp2_with fail
              refine (HDG2.out _).mono ?_
              rintro e w' ⟨rfl, rfl⟩
              go_wp2
              exact bodyPost_ret (v := .tuple #[tokV (timesTok v u (n + 1 + m) : Pc).tok, .int .i64 ((at_ : Int) + n + 1 + m), .int .i64 (timesTok v u (n + 1 + m) : Pc).err]) (by simp [results, Try.results53, go_sem, tokV, timesTok]; rfl) rfl ⟨by rw [HT.out]; exact ret_refV (by simp [timesTok]; try omega), (Below.refl _ _).alloc (Nat.le_refl _) _⟩
          · rw [if_neg hm0] at HT'
            have HT := Lib.hid HT'
            obtain rfl : m = 0 := by omega
            clear HT' hmz
            go_enter Try.func53, Try.ntmps53
            go_wp2_with fail
            refine (HDG.out _).mono ?_
            rintro e w' ⟨rfl, rfl⟩
            go_wp2_with fail
            refine (HDG2.out _).mono ?_
            rintro e w' ⟨rfl, rfl⟩
            go_wp2
            exact bodyPost_ret (v := .tuple #[tokV (timesTok v (-1) (n + 1) : Pc).tok, .int .i64 ((at_ : Int) + n + 1), .int .i64 (timesTok v (-1) (n + 1) : Pc).err]) (by simp [results, Try.results53, go_sem, tokV, timesTok]; rfl) rfl ⟨by rw [HT.out]; exact ret_refV (by simp [timesTok]; try omega), (Below.refl _ _).alloc (Nat.le_refl _) _⟩
      · have h42b : (((s[at_ + n]'hlt).toNat : Int) == 42) = false := by rw [beq_eq_false_iff_ne]; exact h42
        have h42c : (((s[at_ + n]'hlt).toNat : Int) != 42) = true := by rw [bne_iff_ne]; exact h42
        rw [h42b, if_neg (by simp)] at HT'
        have HT := Lib.hid HT'
        clear HT' h42
        go_enter Try.func53, Try.ntmps53
        go_wp2_with (go_at_call 77; refine (HDG.out _).mono ?_; rintro e w' ⟨rfl, rfl⟩)
        exact bodyPost_ret (v := .tuple #[tokV (timesTok v v n : Pc).tok, .int .i64 ((at_ : Int) + n), .int .i64 (timesTok v v n : Pc).err]) (by simp [results, Try.results53, go_sem, tokV, timesTok]; rfl) rfl ⟨by rw [HT.out]; exact ret_refV (by simp [timesTok]; try omega), (Below.refl _ _).alloc (Nat.le_refl _) _⟩
    · have hdl : decide (at_ + n < s.size) = false := by simp; omega
      rw [hdl, Bool.false_and, if_neg (by simp)] at HT'
      have HT := Lib.hid HT'
      have hge : s.size ≤ at_ + n := by omega
      clear HT'
      go_enter Try.func53, Try.ntmps53
      go_wp2_with (go_at_call 77; refine (HDG.out _).mono ?_; rintro e w' ⟨rfl, rfl⟩)
      exact bodyPost_ret (v := .tuple #[tokV (timesTok v v n : Pc).tok, .int .i64 ((at_ : Int) + n), .int .i64 (timesTok v v n : Pc).err]) (by simp [results, Try.results53, go_sem, tokV, timesTok]; rfl) rfl ⟨by rw [HT.out]; exact ret_refV (by simp [timesTok]; try omega), (Below.refl _ _).alloc (Nat.le_refl _) _⟩
end Go.Proofs.Ytkidhffloaonaaa
