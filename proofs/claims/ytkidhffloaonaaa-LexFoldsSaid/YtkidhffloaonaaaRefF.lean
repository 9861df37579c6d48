/-
  The contract of frankingref01's next, all cases. Conditions: a text of at most 65536 bytes, a place within it at which neither a blank nor a remark begins.
-/
import Derived.Test.YtkidhffloaonaaaRefE
namespace Go.Proofs.Ytkidhffloaonaaa
open Go.RowKit

set_option maxRecDepth 100000 in
set_option maxHeartbeats 2000000 in
theorem refNext_47 (s : ByteArray) (at_ : Nat) (hs : s.size ≤ 65536) (hat : at_ < s.size) (hB : ((s[at_]'hat).toNat : Int) = 47) (t : List UInt8) (hr : s.data.toList.drop at_ = 47 :: t) (w : World) :
    Calls Try.prog 27 #[.string s, .int .i64 at_] w fun e w' => e = .returned (refV (readP (s.data.toList.drop at_)) at_) ∧ Below w.heap.size w w' := by
  have HP : Hid (readP (s.data.toList.drop at_) = _) := (congrArg readP hr).trans (read_47 t)
  generalize readP (s.data.toList.drop at_) = P at *
  clear hr
  have HL0 := Lib.hid (fun W => refLetter_any 47 W)
  have HD0 := Lib.hid (fun W => refDigit_any 47 W)
  rw [show letterZ 47 = false from by decide] at HL0
  rw [show digitZ 47 = false from by decide] at HD0
  go_enter Try.func27, Try.ntmps27
  go_wp2_with (first | (go_at_call 25; refine (HL0.out _).mono ?_; rintro e w' ⟨rfl, rfl⟩) | (go_at_call 52; refine (HD0.out _).mono ?_; rintro e w' ⟨rfl, rfl⟩))
  exact bodyPost_ret (v := .tuple #[tokV { kind := 4 }, .int .i64 ((at_ : Int) + 1), .int .i64 0]) (by simp [results, Try.results27, go_sem, tokV]; rfl) rfl ⟨by rw [HP.out]; rfl, (Below.refl _ _).alloc (Nat.le_refl _) _⟩

set_option maxRecDepth 100000 in
set_option maxHeartbeats 2000000 in
theorem refNext_40 (s : ByteArray) (at_ : Nat) (hs : s.size ≤ 65536) (hat : at_ < s.size) (hB : ((s[at_]'hat).toNat : Int) = 40) (t : List UInt8) (hr : s.data.toList.drop at_ = 40 :: t) (w : World) :
    Calls Try.prog 27 #[.string s, .int .i64 at_] w fun e w' => e = .returned (refV (readP (s.data.toList.drop at_)) at_) ∧ Below w.heap.size w w' := by
  have HP : Hid (readP (s.data.toList.drop at_) = _) := (congrArg readP hr).trans (read_40 t)
  generalize readP (s.data.toList.drop at_) = P at *
  clear hr
  have HL0 := Lib.hid (fun W => refLetter_any 40 W)
  have HD0 := Lib.hid (fun W => refDigit_any 40 W)
  rw [show letterZ 40 = false from by decide] at HL0
  rw [show digitZ 40 = false from by decide] at HD0
  go_enter Try.func27, Try.ntmps27
  go_wp2_with (first | (go_at_call 25; refine (HL0.out _).mono ?_; rintro e w' ⟨rfl, rfl⟩) | (go_at_call 52; refine (HD0.out _).mono ?_; rintro e w' ⟨rfl, rfl⟩))
  exact bodyPost_ret (v := .tuple #[tokV { kind := 5 }, .int .i64 ((at_ : Int) + 1), .int .i64 0]) (by simp [results, Try.results27, go_sem, tokV]; rfl) rfl ⟨by rw [HP.out]; rfl, (Below.refl _ _).alloc (Nat.le_refl _) _⟩

set_option maxRecDepth 100000 in
set_option maxHeartbeats 2000000 in
theorem refNext_41 (s : ByteArray) (at_ : Nat) (hs : s.size ≤ 65536) (hat : at_ < s.size) (hB : ((s[at_]'hat).toNat : Int) = 41) (t : List UInt8) (hr : s.data.toList.drop at_ = 41 :: t) (w : World) :
    Calls Try.prog 27 #[.string s, .int .i64 at_] w fun e w' => e = .returned (refV (readP (s.data.toList.drop at_)) at_) ∧ Below w.heap.size w w' := by
  have HP : Hid (readP (s.data.toList.drop at_) = _) := (congrArg readP hr).trans (read_41 t)
  generalize readP (s.data.toList.drop at_) = P at *
  clear hr
  have HL0 := Lib.hid (fun W => refLetter_any 41 W)
  have HD0 := Lib.hid (fun W => refDigit_any 41 W)
  rw [show letterZ 41 = false from by decide] at HL0
  rw [show digitZ 41 = false from by decide] at HD0
  go_enter Try.func27, Try.ntmps27
  go_wp2_with (first | (go_at_call 25; refine (HL0.out _).mono ?_; rintro e w' ⟨rfl, rfl⟩) | (go_at_call 52; refine (HD0.out _).mono ?_; rintro e w' ⟨rfl, rfl⟩))
  exact bodyPost_ret (v := .tuple #[tokV { kind := 6 }, .int .i64 ((at_ : Int) + 1), .int .i64 0]) (by simp [results, Try.results27, go_sem, tokV]; rfl) rfl ⟨by rw [HP.out]; rfl, (Below.refl _ _).alloc (Nat.le_refl _) _⟩

set_option maxRecDepth 100000 in
set_option maxHeartbeats 2000000 in
theorem refNext_91 (s : ByteArray) (at_ : Nat) (hs : s.size ≤ 65536) (hat : at_ < s.size) (hB : ((s[at_]'hat).toNat : Int) = 91) (t : List UInt8) (hr : s.data.toList.drop at_ = 91 :: t) (w : World) :
    Calls Try.prog 27 #[.string s, .int .i64 at_] w fun e w' => e = .returned (refV (readP (s.data.toList.drop at_)) at_) ∧ Below w.heap.size w w' := by
  have HP : Hid (readP (s.data.toList.drop at_) = _) := (congrArg readP hr).trans (read_91 t)
  generalize readP (s.data.toList.drop at_) = P at *
  clear hr
  have HL0 := Lib.hid (fun W => refLetter_any 91 W)
  have HD0 := Lib.hid (fun W => refDigit_any 91 W)
  rw [show letterZ 91 = false from by decide] at HL0
  rw [show digitZ 91 = false from by decide] at HD0
  go_enter Try.func27, Try.ntmps27
  go_wp2_with (first | (go_at_call 25; refine (HL0.out _).mono ?_; rintro e w' ⟨rfl, rfl⟩) | (go_at_call 52; refine (HD0.out _).mono ?_; rintro e w' ⟨rfl, rfl⟩))
  exact bodyPost_ret (v := .tuple #[tokV { kind := 7 }, .int .i64 ((at_ : Int) + 1), .int .i64 0]) (by simp [results, Try.results27, go_sem, tokV]; rfl) rfl ⟨by rw [HP.out]; rfl, (Below.refl _ _).alloc (Nat.le_refl _) _⟩

set_option maxRecDepth 100000 in
set_option maxHeartbeats 2000000 in
theorem refNext_93 (s : ByteArray) (at_ : Nat) (hs : s.size ≤ 65536) (hat : at_ < s.size) (hB : ((s[at_]'hat).toNat : Int) = 93) (t : List UInt8) (hr : s.data.toList.drop at_ = 93 :: t) (w : World) :
    Calls Try.prog 27 #[.string s, .int .i64 at_] w fun e w' => e = .returned (refV (readP (s.data.toList.drop at_)) at_) ∧ Below w.heap.size w w' := by
  have HP : Hid (readP (s.data.toList.drop at_) = _) := (congrArg readP hr).trans (read_93 t)
  generalize readP (s.data.toList.drop at_) = P at *
  clear hr
  have HL0 := Lib.hid (fun W => refLetter_any 93 W)
  have HD0 := Lib.hid (fun W => refDigit_any 93 W)
  rw [show letterZ 93 = false from by decide] at HL0
  rw [show digitZ 93 = false from by decide] at HD0
  go_enter Try.func27, Try.ntmps27
  go_wp2_with (first | (go_at_call 25; refine (HL0.out _).mono ?_; rintro e w' ⟨rfl, rfl⟩) | (go_at_call 52; refine (HD0.out _).mono ?_; rintro e w' ⟨rfl, rfl⟩))
  exact bodyPost_ret (v := .tuple #[tokV { kind := 8 }, .int .i64 ((at_ : Int) + 1), .int .i64 0]) (by simp [results, Try.results27, go_sem, tokV]; rfl) rfl ⟨by rw [HP.out]; rfl, (Below.refl _ _).alloc (Nat.le_refl _) _⟩

set_option maxRecDepth 100000 in
set_option maxHeartbeats 2000000 in
theorem refNext_60 (s : ByteArray) (at_ : Nat) (_hs : s.size ≤ 65536) (hat : at_ < s.size) (hB : ((s[at_]'hat).toNat : Int) = 60) (t : List UInt8) (hr : s.data.toList.drop at_ = 60 :: t) (w : World) :
    Calls Try.prog 27 #[.string s, .int .i64 at_] w fun e w' => e = .returned (refV (readP (s.data.toList.drop at_)) at_) ∧ Below w.heap.size w w' := by
  have HP : Hid (readP (s.data.toList.drop at_) = _) := (congrArg readP hr).trans (read_60 t)
  generalize readP (s.data.toList.drop at_) = P at *
  clear hr
  have HL0 := Lib.hid (fun W => refLetter_any 60 W)
  have HD0 := Lib.hid (fun W => refDigit_any 60 W)
  rw [show letterZ 60 = false from by decide] at HL0
  rw [show digitZ 60 = false from by decide] at HD0
  go_enter Try.func27, Try.ntmps27
  go_wp2_with (first | (go_at_call 25; refine (HL0.out _).mono ?_; rintro e w' ⟨rfl, rfl⟩) | (go_at_call 52; refine (HD0.out _).mono ?_; rintro e w' ⟨rfl, rfl⟩))
  exact bodyPost_ret (v := .tuple #[tokV {}, .int .i64 ((at_ : Int)), .int .i64 16]) (by simp [results, Try.results27, go_sem, tokV]; rfl) rfl ⟨by rw [HP.out]; rfl, (Below.refl _ _).alloc (Nat.le_refl _) _⟩

set_option maxRecDepth 100000 in
set_option maxHeartbeats 2000000 in
theorem refNext_61 (s : ByteArray) (at_ : Nat) (hs : s.size ≤ 65536) (hat : at_ < s.size) (hB : ((s[at_]'hat).toNat : Int) = 61) (t : List UInt8) (hr : s.data.toList.drop at_ = 61 :: t) (w : World) :
    Calls Try.prog 27 #[.string s, .int .i64 at_] w fun e w' => e = .returned (refV (readP (s.data.toList.drop at_)) at_) ∧ Below w.heap.size w w' := by
  have hrl : (s.data.toList.drop at_).length = s.size - at_ := by rw [List.length_drop, listLen]
  have hby := byteZ_drop s.data.toList at_ 1
  have HL0 := Lib.hid (fun W => refLetter_any 61 W)
  have HD0 := Lib.hid (fun W => refDigit_any 61 W)
  rw [show letterZ 61 = false from by decide] at HL0
  rw [show digitZ 61 = false from by decide] at HD0
  by_cases hlt : at_ + 1 < s.size
  · rw [← byteZ_at s (at_ + 1) hlt, hr] at hby
    have hnn : ((at_ : Int) + 1).toNat = at_ + 1 := by omega
    cases t with
    | nil =>
      rw [hr] at hrl
      simp at hrl
      omega
    | cons d t =>
      have hd : (d.toNat : Int) = ((s[at_ + 1]'hlt).toNat : Int) := hby
      by_cases h47 : ((s[at_ + 1]'hlt).toNat : Int) = 47
      · have hd47 : d = 47 := u8_of (k := 47) (by rw [hd, h47]; rfl) (by omega)
        subst hd47
        have HP : Hid (readP (s.data.toList.drop at_) = _) := (congrArg readP hr).trans (read_61a t)
        generalize readP (s.data.toList.drop at_) = P at *
        clear hr hby hd hrl
        go_enter Try.func27, Try.ntmps27
        go_wp2_with (first | (go_at_call 25; refine (HL0.out _).mono ?_; rintro e w' ⟨rfl, rfl⟩) | (go_at_call 52; refine (HD0.out _).mono ?_; rintro e w' ⟨rfl, rfl⟩))
        exact bodyPost_ret (v := .tuple #[tokV { kind := 3 }, .int .i64 ((at_ : Int) + 2), .int .i64 0]) (by simp [results, Try.results27, go_sem, tokV]; rfl) rfl ⟨by rw [HP.out]; rfl, (Below.refl _ _).alloc (Nat.le_refl _) _⟩
      · have hdne : d ≠ 47 := num_ne (by rw [hd]; exact h47)
        have HP : Hid (readP (s.data.toList.drop at_) = _) := (congrArg readP hr).trans (read_61b d t hdne)
        have h47b : (((s[at_ + 1]'hlt).toNat : Int) == 47) = false := by rw [beq_eq_false_iff_ne]; exact h47
        generalize readP (s.data.toList.drop at_) = P at *
        clear hr hby hd hrl hdne h47
        go_enter Try.func27, Try.ntmps27
        go_wp2_with (first | (go_at_call 25; refine (HL0.out _).mono ?_; rintro e w' ⟨rfl, rfl⟩) | (go_at_call 52; refine (HD0.out _).mono ?_; rintro e w' ⟨rfl, rfl⟩))
        exact bodyPost_ret (v := .tuple #[tokV { kind := 2 }, .int .i64 ((at_ : Int) + 1), .int .i64 0]) (by simp [results, Try.results27, go_sem, tokV]; rfl) rfl ⟨by rw [HP.out]; rfl, (Below.refl _ _).alloc (Nat.le_refl _) _⟩
  · have ht : t = [] := by
      rw [hr] at hrl
      simp at hrl
      exact List.eq_nil_of_length_eq_zero (by omega)
    subst ht
    have HP : Hid (readP (s.data.toList.drop at_) = _) := (congrArg readP hr).trans read_61n
    generalize readP (s.data.toList.drop at_) = P at *
    have hge : s.size ≤ at_ + 1 := by omega
    clear hr hby hrl
    go_enter Try.func27, Try.ntmps27
    go_wp2_with (first | (go_at_call 25; refine (HL0.out _).mono ?_; rintro e w' ⟨rfl, rfl⟩) | (go_at_call 52; refine (HD0.out _).mono ?_; rintro e w' ⟨rfl, rfl⟩))
    exact bodyPost_ret (v := .tuple #[tokV { kind := 2 }, .int .i64 ((at_ : Int) + 1), .int .i64 0]) (by simp [results, Try.results27, go_sem, tokV]; rfl) rfl ⟨by rw [HP.out]; rfl, (Below.refl _ _).alloc (Nat.le_refl _) _⟩

set_option maxRecDepth 100000 in
set_option maxHeartbeats 2000000 in
theorem refNext_else (s : ByteArray) (at_ : Nat) (_hs : s.size ≤ 65536) (hat : at_ < s.size) (c : UInt8) (hc : (c.toNat : Int) = ((s[at_]'hat).toNat : Int)) (t : List UInt8) (hr : s.data.toList.drop at_ = c :: t)
    (hb : blankZ c.toNat = false) (hl : letterZ c.toNat = false) (ht : timesZ c.toNat = false) (h : ∀ k : UInt8, k ∈ [59, 61, 47, 40, 41, 91, 93, 34, 37, 60] → c ≠ k) (w : World) :
    Calls Try.prog 27 #[.string s, .int .i64 at_] w fun e w' => e = .returned (refV (readP (s.data.toList.drop at_)) at_) ∧ Below w.heap.size w w' := by
  have HP : Hid (readP (s.data.toList.drop at_) = _) := (congrArg readP hr).trans (read_else c t hb hl ht h)
  generalize readP (s.data.toList.drop at_) = P at *
  clear hr
  have hk : ∀ k : UInt8, k ∈ [59, 61, 47, 40, 41, 91, 93, 34, 37, 60] → (((s[at_]'hat).toNat : Int) == (k.toNat : Int)) = false := by
    intro k hm
    rw [beq_eq_false_iff_ne, ← hc]
    intro e
    apply h k hm
    apply UInt8.toNat_inj.1
    omega
  have k1 : (((s[at_]'hat).toNat : Int) == 61) = false := hk 61 (by decide)
  have k2 : (((s[at_]'hat).toNat : Int) == 47) = false := hk 47 (by decide)
  have k3 : (((s[at_]'hat).toNat : Int) == 40) = false := hk 40 (by decide)
  have k4 : (((s[at_]'hat).toNat : Int) == 41) = false := hk 41 (by decide)
  have k5 : (((s[at_]'hat).toNat : Int) == 91) = false := hk 91 (by decide)
  have k6 : (((s[at_]'hat).toNat : Int) == 93) = false := hk 93 (by decide)
  have k7 : (((s[at_]'hat).toNat : Int) == 34) = false := hk 34 (by decide)
  have k8 : (((s[at_]'hat).toNat : Int) == 37) = false := hk 37 (by decide)
  have k9 : (((s[at_]'hat).toNat : Int) == 60) = false := hk 60 (by decide)
  rw [hc] at hl ht
  have hd : digitZ ((s[at_]'hat).toNat : Int) = false := by
    rw [timesZ] at ht
    simp only [Bool.or_eq_false_iff] at ht
    exact ht.1
  have k10 : (((s[at_]'hat).toNat : Int) == 42) = false := by
    rw [timesZ] at ht
    simp only [Bool.or_eq_false_iff] at ht
    exact ht.2
  have HL0 := Lib.hid (fun W => refLetter_any ((s[at_]'hat).toNat : Int) W)
  have HD0 := Lib.hid (fun W => refDigit_any ((s[at_]'hat).toNat : Int) W)
  rw [hl] at HL0
  rw [hd] at HD0
  clear hk hb hl ht h hc hd
  go_enter Try.func27, Try.ntmps27
  go_wp2_with (first | (go_at_call 25; refine (HL0.out _).mono ?_; rintro e w' ⟨rfl, rfl⟩) | (go_at_call 52; refine (HD0.out _).mono ?_; rintro e w' ⟨rfl, rfl⟩))
  exact bodyPost_ret (v := .tuple #[tokV {}, .int .i64 ((at_ : Int)), .int .i64 11]) (by simp [results, Try.results27, go_sem, tokV]; rfl) rfl ⟨by rw [HP.out]; rfl, (Below.refl _ _).alloc (Nat.le_refl _) _⟩

end Go.Proofs.Ytkidhffloaonaaa
