/-
  The contract of frankingref01's next, the cases that call, and all together. Conditions: a text of at most 65536 bytes, a place within it at which neither a blank nor a remark begins.
-/
import Derived.Test.YtkidhffloaonaaaRefF
namespace Go.Proofs.Ytkidhffloaonaaa
open Go.RowKit

theorem zeroTok_blk {w w1 : World} (hb : Below (w.alloc (.cells zeroTok 30)).heap.size (w.alloc (.cells zeroTok 30)) w1) : Blk w1 w.heap.size 30 zeroTok ∧ Below w.heap.size w w1 :=
  ⟨(Blk.new w _ _).below hb (by simp), ((Below.refl _ _).alloc (Nat.le_refl _) _).trans (hb.mono (by simp))⟩

set_option maxRecDepth 100000 in
set_option maxHeartbeats 2000000 in
theorem refNext_times (s : ByteArray) (at_ : Nat) (hs : s.size ≤ 65536) (hat : at_ < s.size) (c : UInt8) (hc : (c.toNat : Int) = ((s[at_]'hat).toNat : Int)) (t : List UInt8) (hr : s.data.toList.drop at_ = c :: t) (ht : timesZ c.toNat = true) (w : World) :
    Calls Try.prog 27 #[.string s, .int .i64 at_] w fun e w' => e = .returned (refV (readP (s.data.toList.drop at_)) at_) ∧ Below w.heap.size w w' := by
  have HP : Hid (readP (s.data.toList.drop at_) = timesP (s.data.toList.drop at_)) := by
    show _ = _
    rw [hr]
    exact read_times c t ht
  have HT := Lib.hid (fun W => refTimes_any s at_ hs hat W)
  generalize readP (s.data.toList.drop at_) = P at *
  rw [← HP.out] at HT
  clear hr HP
  rw [hc] at ht
  have hl : letterZ ((s[at_]'hat).toNat : Int) = false := by
    simp only [timesZ, digitZ, Bool.or_eq_true, Bool.and_eq_true, decide_eq_true_eq, beq_iff_eq] at ht
    simp only [letterZ, Bool.or_eq_false_iff, Bool.and_eq_false_iff, decide_eq_false_iff_not]
    omega
  have HL0 := Lib.hid (fun W => refLetter_any ((s[at_]'hat).toNat : Int) W)
  have HD0 := Lib.hid (fun W => refDigit_any ((s[at_]'hat).toNat : Int) W)
  rw [hl] at HL0
  clear hl hc
  cases hd : digitZ ((s[at_]'hat).toNat : Int) with
  | true =>
    rw [hd] at HD0
    clear hd ht
    go_enter Try.func27, Try.ntmps27
    go_wp2_with (first | (go_at_call 25; refine (HL0.out _).mono ?_; rintro e w' ⟨rfl, rfl⟩) | (go_at_call 52; refine (HD0.out _).mono ?_; rintro e w' ⟨rfl, rfl⟩))
    refine (HT.out _).mono ?_
    rintro e w1 ⟨rfl, hb1⟩
    obtain ⟨hR, hB⟩ := zeroTok_blk hb1
    have hcR := hR.cell
    have hfR := hR.frozen
    unfold zeroTok at hcR
    unfold refV tokV
    clear hb1
    generalize hx : (if P.err = 0 then (at_ : Int) + P.size else (at_ : Int) + P.bad) = x
    have HX := Lib.hid hx
    clear hx
    go_wp2
    refine bodyPost_ret (v := .tuple #[tokV P.tok, .int .i64 x, .int .i64 P.err]) ?_ rfl ⟨ret_refV HX.out.symm, ?_⟩
    · simp [results, Try.results27, go_sem, tokV, hcR]
    · iterate 7 refine Below.setCell ?_ (by simp) _
      exact hB
  | false =>
    rw [hd] at HD0
    have h42 : (((s[at_]'hat).toNat : Int) == 42) = true := by
      rw [timesZ, hd] at ht
      simpa using ht
    clear hd ht
    go_enter Try.func27, Try.ntmps27
    go_wp2_with (first | (go_at_call 25; refine (HL0.out _).mono ?_; rintro e w' ⟨rfl, rfl⟩) | (go_at_call 52; refine (HD0.out _).mono ?_; rintro e w' ⟨rfl, rfl⟩))
    refine (HT.out _).mono ?_
    rintro e w1 ⟨rfl, hb1⟩
    obtain ⟨hR, hB⟩ := zeroTok_blk hb1
    have hcR := hR.cell
    have hfR := hR.frozen
    unfold zeroTok at hcR
    unfold refV tokV
    clear hb1
    generalize hx : (if P.err = 0 then (at_ : Int) + P.size else (at_ : Int) + P.bad) = x
    have HX := Lib.hid hx
    clear hx
    go_wp2
    refine bodyPost_ret (v := .tuple #[tokV P.tok, .int .i64 x, .int .i64 P.err]) ?_ rfl ⟨ret_refV HX.out.symm, ?_⟩
    · simp [results, Try.results27, go_sem, tokV, hcR]
    · iterate 7 refine Below.setCell ?_ (by simp) _
      exact hB

set_option maxRecDepth 100000 in
set_option maxHeartbeats 2000000 in
theorem refNext_34 (s : ByteArray) (at_ : Nat) (hs : s.size ≤ 65536) (hat : at_ < s.size) (hB : ((s[at_]'hat).toNat : Int) = 34) (t : List UInt8) (hr : s.data.toList.drop at_ = 34 :: t) (w : World) :
    Calls Try.prog 27 #[.string s, .int .i64 at_] w fun e w' => e = .returned (refV (readP (s.data.toList.drop at_)) at_) ∧ Below w.heap.size w w' := by
  have ht : s.data.toList.drop (at_ + 1) = t := by
    rw [← List.drop_drop, hr]
    rfl
  have HP : Hid (readP (s.data.toList.drop at_) = charsOf t (quoteAt t)) := by
    show _ = _
    rw [hr, read_34]
    rfl
  have HQ := Lib.hid (fun W => refQuoted_any s at_ hs hat W)
  rw [ht] at HQ
  have htl : t.length ≤ 65536 := by
    rw [← ht, List.length_drop, listLen]
    omega
  generalize readP (s.data.toList.drop at_) = P at *
  clear hr ht
  have HL0 := Lib.hid (fun W => refLetter_any 34 W)
  have HD0 := Lib.hid (fun W => refDigit_any 34 W)
  rw [show letterZ 34 = false from by decide] at HL0
  rw [show digitZ 34 = false from by decide] at HD0
  cases hq : quoteAt t with
  | none =>
    rw [hq] at HQ HP
    clear hq
    unfold quotedV at HQ
    go_enter Try.func27, Try.ntmps27
    go_wp2_with (first | (go_at_call 25; refine (HL0.out _).mono ?_; rintro e w' ⟨rfl, rfl⟩) | (go_at_call 52; refine (HD0.out _).mono ?_; rintro e w' ⟨rfl, rfl⟩) | (go_at_call 54; refine (HQ.out _).mono ?_; rintro e w' ⟨rfl, rfl⟩))
    exact bodyPost_ret (v := .tuple #[tokV {}, .int .i64 (at_ : Int), .int .i64 14]) (by simp [results, Try.results27, go_sem, tokV]; rfl) rfl ⟨by rw [HP.out]; rfl, (Below.refl _ _).alloc (Nat.le_refl _) _⟩
  | some i =>
    have hi := quoteAt_lt t i hq
    rw [hq] at HQ HP
    clear hq
    unfold quotedV at HQ
    have hsz : (bs (t.take i)).size = i := by rw [bs_size, List.length_take]; omega
    go_enter Try.func27, Try.ntmps27
    go_wp2_with (first | (go_at_call 25; refine (HL0.out _).mono ?_; rintro e w' ⟨rfl, rfl⟩) | (go_at_call 52; refine (HD0.out _).mono ?_; rintro e w' ⟨rfl, rfl⟩) | (go_at_call 54; refine (HQ.out _).mono ?_; rintro e w' ⟨rfl, rfl⟩))
    exact bodyPost_ret (v := .tuple #[tokV { kind := 10, text := t.take i }, .int .i64 ((at_ : Int) + i + 2), .int .i64 0]) (by simp [results, Try.results27, go_sem, tokV]) rfl ⟨by rw [HP.out]; exact congrArg (fun z => Ending.returned (.tuple #[tokV { kind := 10, text := t.take i }, .int .i64 z, .int .i64 0])) (by show (at_ : Int) + i + 2 = (at_ : Int) + ((i + 2 : Nat) : Int); omega), (Below.refl _ _).alloc (Nat.le_refl _) _⟩

end Go.Proofs.Ytkidhffloaonaaa
