/-
  The contract of frankingref01's next. Conditions: a text of at most 65536 bytes, a place within it at which neither a blank nor a remark begins.
-/
import Derived.Test.YtkidhffloaonaaaRefD
namespace Go.Proofs.Ytkidhffloaonaaa
open Go.RowKit

theorem read_47 (t : List UInt8) : readP (47 :: t) = { tok := { kind := 4 }, size := 1 } := rfl
theorem read_40 (t : List UInt8) : readP (40 :: t) = { tok := { kind := 5 }, size := 1 } := rfl
theorem read_41 (t : List UInt8) : readP (41 :: t) = { tok := { kind := 6 }, size := 1 } := rfl
theorem read_91 (t : List UInt8) : readP (91 :: t) = { tok := { kind := 7 }, size := 1 } := rfl
theorem read_93 (t : List UInt8) : readP (93 :: t) = { tok := { kind := 8 }, size := 1 } := rfl
theorem read_60 (t : List UInt8) : readP (60 :: t) = { bad := 0, err := 16 } := rfl
theorem read_34 (t : List UInt8) : readP (34 :: t) = charsP (34 :: t) := rfl
theorem read_37 (t : List UInt8) : readP (37 :: t) = valuesP (37 :: t) := rfl
theorem read_61a (t : List UInt8) : readP (61 :: 47 :: t) = { tok := { kind := 3 }, size := 2 } := rfl
theorem read_61n : readP [61] = { tok := { kind := 2 }, size := 1 } := rfl
theorem pre1 (c d : UInt8) (t : List UInt8) (h : c ≠ d) : Lib.hasPrefix (c :: t) [d] = false := by
  simp [Lib.hasPrefix, List.isPrefixOf]
  exact fun e => h e.symm
theorem pre2 (c d e : UInt8) (t : List UInt8) (h : c ≠ d) : Lib.hasPrefix (c :: t) [d, e] = false := by
  simp [Lib.hasPrefix, List.isPrefixOf]
  intro x
  exact absurd x.symm h
theorem read_61b (d : UInt8) (t : List UInt8) (h : d ≠ 47) : readP (61 :: d :: t) = { tok := { kind := 2 }, size := 1 } := by
  have h1 : Lib.hasPrefix (61 :: d :: t) [61, 47] = false := by
    simp [Lib.hasPrefix, List.isPrefixOf]
    exact fun e => h e.symm
  have e1 : readP (61 :: d :: t) = if Lib.hasPrefix (61 :: d :: t) [61, 47] = true then { tok := { kind := 3 }, size := 2 } else { tok := { kind := 2 }, size := 1 } := rfl
  rw [e1, h1, if_neg (by simp)]
theorem num_ne {c : UInt8} {k : UInt8} (h : (c.toNat : Int) ≠ (k.toNat : Int)) : c ≠ k := fun e => h (by rw [e])
theorem read_times (c : UInt8) (t : List UInt8) (h : timesZ c.toNat = true) : readP (c :: t) = timesP (c :: t) := by
  have hb : blankZ c.toNat = false := by
    simp only [timesZ, digitZ, Bool.or_eq_true, Bool.and_eq_true, decide_eq_true_eq, beq_iff_eq] at h
    simp only [blankZ, Bool.or_eq_false_iff, beq_eq_false_iff_ne]
    omega
  have hl : letterZ c.toNat = false := by
    simp only [timesZ, digitZ, Bool.or_eq_true, Bool.and_eq_true, decide_eq_true_eq, beq_iff_eq] at h
    simp only [letterZ, Bool.or_eq_false_iff, Bool.and_eq_false_iff, decide_eq_false_iff_not]
    omega
  have hn : ∀ k : UInt8, timesZ k.toNat = false → c ≠ k := by
    intro k hk e
    rw [e, hk] at h
    cases h
  unfold readP table signRow
  rw [pick, if_neg (by rw [byteZ_cons, hb]; simp), pick, if_neg (by rw [pre1 c 59 t (hn 59 (by decide))]; simp), pick, if_neg (by rw [byteZ_cons, hl]; simp), pick, if_neg (by rw [pre2 c 61 47 t (hn 61 (by decide))]; simp), pick, if_neg (by rw [pre1 c 61 t (hn 61 (by decide))]; simp),
    pick, if_neg (by rw [pre1 c 47 t (hn 47 (by decide))]; simp), pick, if_neg (by rw [pre1 c 40 t (hn 40 (by decide))]; simp), pick, if_neg (by rw [pre1 c 41 t (hn 41 (by decide))]; simp), pick, if_neg (by rw [pre1 c 91 t (hn 91 (by decide))]; simp), pick, if_neg (by rw [pre1 c 93 t (hn 93 (by decide))]; simp),
    pick, if_pos (by rw [byteZ_cons]; exact h)]
theorem read_else (c : UInt8) (t : List UInt8) (hb : blankZ c.toNat = false) (hl : letterZ c.toNat = false) (ht : timesZ c.toNat = false) (h : ∀ k : UInt8, k ∈ [59, 61, 47, 40, 41, 91, 93, 34, 37, 60] → c ≠ k) : readP (c :: t) = { bad := 0, err := 11 } := by
  unfold readP table signRow
  rw [pick, if_neg (by rw [byteZ_cons, hb]; simp), pick, if_neg (by rw [pre1 c 59 t (h 59 (by decide))]; simp), pick, if_neg (by rw [byteZ_cons, hl]; simp), pick, if_neg (by rw [pre2 c 61 47 t (h 61 (by decide))]; simp), pick, if_neg (by rw [pre1 c 61 t (h 61 (by decide))]; simp),
    pick, if_neg (by rw [pre1 c 47 t (h 47 (by decide))]; simp), pick, if_neg (by rw [pre1 c 40 t (h 40 (by decide))]; simp), pick, if_neg (by rw [pre1 c 41 t (h 41 (by decide))]; simp), pick, if_neg (by rw [pre1 c 91 t (h 91 (by decide))]; simp), pick, if_neg (by rw [pre1 c 93 t (h 93 (by decide))]; simp),
    pick, if_neg (by rw [byteZ_cons, ht]; simp), pick, if_neg (by rw [pre1 c 34 t (h 34 (by decide))]; simp), pick, if_neg (by rw [pre1 c 37 t (h 37 (by decide))]; simp), pick, if_neg (by rw [pre1 c 60 t (h 60 (by decide))]; simp), pick, if_pos (show Lib.hasPrefix (c :: t) [] = true from rfl)]
theorem u8_of {c : UInt8} {k : Nat} (h : (c.toNat : Int) = (k : Int)) (hk : k < 256) : c = UInt8.ofNat k := by
  apply UInt8.toNat_inj.1
  rw [UInt8.toNat_ofNat']
  have : c.toNat = k := by omega
  omega

set_option maxRecDepth 100000 in
set_option maxHeartbeats 4000000 in
theorem refNext_letter (s : ByteArray) (at_ : Nat) (hs : s.size ≤ 65536) (hat : at_ < s.size) (hl : letterZ (byteZ s.data.toList at_) = true) (w : World) :
    Calls Try.prog 27 #[.string s, .int .i64 at_] w fun e w' => e = .returned (refV (readP (s.data.toList.drop at_)) at_) ∧ Below w.heap.size w w' := by
  have HLEN := Lib.hid (listLen s)
  obtain ⟨c, hc, hcb⟩ := drop_byte s.data.toList at_ (by rw [listLen]; exact hat)
  have hne : s.data.toList.drop at_ ≠ [] := by rw [hc]; simp
  have hb0 : byteZ (s.data.toList.drop at_) 0 = byteZ s.data.toList at_ := byteZ_drop _ _ 0
  have HP := Lib.hid (read_letter (s.data.toList.drop at_) hne (by rw [hb0]; exact hl))
  generalize readP (s.data.toList.drop at_) = P at *
  have HBY := Lib.hid (fun k => byteZ_drop s.data.toList at_ k)
  have hrl : (s.data.toList.drop at_).length = s.size - at_ := by rw [List.length_drop, listLen]
  have HX := Lib.hid (fun b => extract_list s at_ b)
  have HB := Lib.hid (byteZ_at s at_ hat)
  have HL0 := Lib.hid (fun W => refLetter_any ((s[at_]'hat).toNat : Int) W)
  rw [HB.out, hl, ← HB.out] at HL0
  clear hc hcb hne hb0 hl
  generalize s.data.toList.drop at_ = r at *
  have HRL := Lib.hid hrl
  clear hrl
  go_enter Try.func27, Try.ntmps27
  go_wp2_with fail
  refine (HL0.out _).mono ?_
  rintro e w' ⟨rfl, rfl⟩
  go_wp2
  go_loop [7] (fun i => ∃ k : Nat, at_ + k ≤ s.size ∧ i = .int .i64 ((at_ : Int) + k) ∧ k ≤ spanZ namedZ r) (fun i => s.size - (intOf i).toNat)
  case atStart => exact ⟨0, by omega, by simp, Nat.zero_le _⟩
  case round =>
    obtain ⟨k, hk, rfl, hsp⟩ := hrel
    have hnn : ((at_ : Int) + k).toNat = at_ + k := by omega
    have hfin : spanZ namedZ r = k → Hid (P = { tok := { kind := 1, text := r.take k }, size := k }) := by
      intro h
      show P = _
      rw [HP.out, nameP, h]
    have hx : s.extract at_ (at_ + k) = bs (r.take k) := by
      have := HX.out (at_ + k)
      rw [Nat.add_sub_cancel_left] at this
      rw [← this, bs_of]
    by_cases hlt : at_ + k < s.size
    · have hkr : k < r.length := by rw [HRL.out]; omega
      have hst := spanZ_step namedZ r k hsp hkr
      have hsto := spanZ_stop namedZ r k hsp hkr
      rw [HBY.out k, ← byteZ_at s (at_ + k) hlt] at hst hsto
      have HL := Lib.hid (fun W => refLetter_any ((s[at_ + k]'hlt).toNat : Int) W)
      have HDG := Lib.hid (fun W => refDigit_any ((s[at_ + k]'hlt).toNat : Int) W)
      cases hnm : namedZ ((s[at_ + k]'hlt).toNat : Int) with
      | true =>
        have hs2 := hst hnm
        clear hst hsto hfin hx
        cases h1 : letterZ ((s[at_ + k]'hlt).toNat : Int) with
        | true =>
          rw [h1] at HL
          clear hnm h1
          go_wp2_with (go_at_call 25; refine (HL.out _).mono ?_; rintro e w' ⟨rfl, rfl⟩)
          go_round
          case rel => exact ⟨k + 1, by omega, by go_num, hs2⟩
          case measure => simp [intOf]; omega
        | false =>
          rw [h1] at HL
          cases h2 : digitZ ((s[at_ + k]'hlt).toNat : Int) with
          | true =>
            rw [h2] at HDG
            clear hnm h1 h2
            go_wp2_with (first | (go_at_call 25; refine (HL.out _).mono ?_; rintro e w' ⟨rfl, rfl⟩) | (go_at_call 52; refine (HDG.out _).mono ?_; rintro e w' ⟨rfl, rfl⟩))
            go_round
            case rel => exact ⟨k + 1, by omega, by go_num, hs2⟩
            case measure => simp [intOf]; omega
          | false =>
            rw [h2] at HDG
            have h45 : (((s[at_ + k]'hlt).toNat : Int) == 45) = true := by
              rw [namedZ, h1, h2] at hnm
              simpa using hnm
            clear hnm h1 h2
            go_wp2_with (first | (go_at_call 25; refine (HL.out _).mono ?_; rintro e w' ⟨rfl, rfl⟩) | (go_at_call 52; refine (HDG.out _).mono ?_; rintro e w' ⟨rfl, rfl⟩))
            go_round
            case rel => exact ⟨k + 1, by omega, by go_num, hs2⟩
            case measure => simp [intOf]; omega
      | false =>
        have HF := hfin (hsto hnm)
        have h1 : letterZ ((s[at_ + k]'hlt).toNat : Int) = false := by
          rw [namedZ] at hnm
          simp only [Bool.or_eq_false_iff] at hnm
          exact hnm.1.1
        have h2 : digitZ ((s[at_ + k]'hlt).toNat : Int) = false := by
          rw [namedZ] at hnm
          simp only [Bool.or_eq_false_iff] at hnm
          exact hnm.1.2
        have h45 : (((s[at_ + k]'hlt).toNat : Int) == 45) = false := by
          rw [namedZ] at hnm
          simp only [Bool.or_eq_false_iff] at hnm
          exact hnm.2
        rw [h1] at HL
        rw [h2] at HDG
        have HXX := Lib.hid hx
        clear hst hsto hfin hnm h1 h2 hx
        go_wp2_with (first | (go_at_call 25; refine (HL.out _).mono ?_; rintro e w' ⟨rfl, rfl⟩) | (go_at_call 52; refine (HDG.out _).mono ?_; rintro e w' ⟨rfl, rfl⟩))
        exact bodyPost_ret (v := .tuple #[tokV { kind := 1, text := r.take k }, .int .i64 ((at_ : Int) + k), .int .i64 0]) (by simp [results, Try.results27, go_sem, tokV]; rw [← HXX.out]) rfl ⟨by rw [HF.out]; rfl, (Below.refl _ _).alloc (Nat.le_refl _) _⟩
    · have HF := hfin (by have := spanZ_le namedZ r; rw [HRL.out] at this; omega)
      have hge : s.size ≤ at_ + k := by omega
      have HXX := Lib.hid hx
      clear hfin hx
      go_wp2
      exact bodyPost_ret (v := .tuple #[tokV { kind := 1, text := r.take k }, .int .i64 ((at_ : Int) + k), .int .i64 0]) (by simp [results, Try.results27, go_sem, tokV]; rw [← HXX.out]) rfl ⟨by rw [HF.out]; rfl, (Below.refl _ _).alloc (Nat.le_refl _) _⟩
end Go.Proofs.Ytkidhffloaonaaa
