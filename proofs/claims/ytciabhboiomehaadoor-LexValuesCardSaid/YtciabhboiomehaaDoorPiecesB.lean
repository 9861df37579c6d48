/-
  The contracts of lex/start.go's reading functions: what each answers for every text. Conditions: a text of at most 65536 bytes.
-/
import Derived.Test.YtciabhboiomehaaDoorPieces
import Derived.Test.YtciabhboiomehaaDoorShelf
import Derived.Deep.QuietTactic
import Derived.BigQuiet
import Derived.IntWalk
namespace Go.Proofs.YtciabhboiomehaaDoor
open Go.RowKit

theorem quiet_left {P : Program} {f : FuncId} {args : Array Value} {w : World} {n : Nat} {v : Value}
    (h : Calls P f args (w.drewN n) fun e w' => e = .returned v ∧ w.drewN n = w') : Calls P f args (w.drewN n) fun e w'' => e = .returned v ∧ ∃ m, w'' = w.drewN m :=
  h.mono fun _ _ ⟨he, hm⟩ => ⟨he, n, hm.symm⟩

theorem below_drewN {B : Nat} {a w : World} (h : Below B a w) (n : Nat) : Below B a (w.drewN n) := ⟨h.os, h.tape, h.output, h.size, h.block⟩

theorem bcell {W w1 : World} (hb : Below W.heap.size W w1) : (∀ b o, b < W.heap.size → w1.cell? ⟨b, o, none⟩ = W.cell? ⟨b, o, none⟩) ∧ (∀ b o, b < W.heap.size → w1.frozen? ⟨b, o, none⟩ = W.frozen? ⟨b, o, none⟩) :=
  ⟨fun b o h => hb.cell (p := ⟨b, o, none⟩) h, fun b o h => hb.frozen (p := ⟨b, o, none⟩) h⟩

theorem extract_list (s : ByteArray) (a b : Nat) : (s.extract a b).data.toList = (s.data.toList.drop a).take (b - a) := by
  rw [ByteArray.data_extract, Array.toList_extract, List.extract_eq_take_drop]

theorem extract_bs (s : ByteArray) (a b : Nat) : s.extract a b = bs ((s.data.toList.drop a).take (b - a)) := by
  rw [← extract_list, bs_of]

theorem clone_any (s : ByteArray) (w : World) (hs : s.size ≤ 65536) :
    Calls Tryd.prog 66 #[.string s] w fun e w' => e = .returned (.string s) ∧ Below w.heap.size w w' := by
  go_enter Tryd.func66, Tryd.ntmps66
  go_wp2_with (go_at_call 84; refine (Tryd.stringslite_Clone s _ (by omega)).mono ?_; rintro e w' ⟨rfl, hb⟩)
  go_ret
  exact ⟨rfl, hb⟩

theorem enters_named : ∀ (args : Array Value) (w : World), (callFunc 65 args).run Tryd.prog w = .ok (.enter 65 args) w := by
  intro args w; simp [go_sem]
theorem enters_digit : ∀ (args : Array Value) (w : World), (callFunc 68 args).run Tryd.prog w = .ok (.enter 68 args) w := by
  intro args w; simp [go_sem]

set_option maxHeartbeats 400000 in
theorem readName_any (s : ByteArray) (hs : s.size ≤ 65536) (w : World) :
    Calls Tryd.prog 40 #[.string s] w fun e w' => e = .returned (pieceV { tok := { kind := 1, text := s.data.toList.take (spanZ namedZ s.data.toList) }, size := spanZ namedZ s.data.toList }) ∧ Below w.heap.size w w' := by
  have hle := spanZ_le namedZ s.data.toList
  rw [listLen] at hle
  go_enter Tryd.func40, Tryd.ntmps40
  go_wp2_with (go_at_call 62; refine (span_same s _ namedZ hs enters_named (fun n w _ _ => isNamed_any n w) _).mono ?_; rintro e w' ⟨rfl, rfl⟩)
  refine (clone_any _ _ (by simp; omega)).mono ?_
  rintro e w1 ⟨rfl, hb⟩
  obtain ⟨hc, hf⟩ := bcell hb
  have hz : w.heap.size < w1.heap.size := by have := hb.size; simp at this; omega
  rw [extract_bs, List.drop_zero, Nat.sub_zero]
  go_wp2
  refine bodyPost_ret (v := pieceV { tok := { kind := 1, text := s.data.toList.take (spanZ namedZ s.data.toList) }, size := spanZ namedZ s.data.toList }) ?_ rfl ⟨rfl, ?_⟩
  · simp [results, Tryd.results40, go_sem, hc]
    rfl
  · have h1 : Below w.heap.size w w1 := ((Below.refl _ _).alloc (Nat.le_refl _) _).trans (hb.mono (by simp))
    iterate 10 refine Below.setCell ?_ (by simp) _
    exact h1

/-- what digits mean -/
def numberFrom (base : Int) (a : Int) : List UInt8 → Int
  | [] => a
  | c :: r => numberFrom base (a * base + digitOfZ c.toNat) r
def numberZ (base : Int) (l : List UInt8) : Int := numberFrom base 0 l

theorem digitOfZ_bd (n : Int) (h0 : 0 ≤ n) (h1 : n ≤ 255) : 0 ≤ digitOfZ n ∧ digitOfZ n ≤ 16 := by
  unfold digitOfZ
  by_cases hd : digitZ n = true
  · rw [if_pos hd]
    simp only [digitZ, Bool.and_eq_true, decide_eq_true_eq] at hd
    omega
  · rw [if_neg hd]
    split
    · omega
    · split <;> omega

/-- the step of the sum: at most 17 times as much, and 16 more -/
theorem numberFrom_take (base : Int) (l : List UInt8) : ∀ (a : Int) (k : Nat), k < l.length → numberFrom base a (l.take (k + 1)) = numberFrom base a (l.take k) * base + digitOfZ (byteZ l k) := by
  induction l with
  | nil => intro a k h; simp at h
  | cons c r ih =>
    intro a k h
    cases k with
    | zero => simp [numberFrom, byteZ]
    | succ k =>
      simp only [List.take_succ_cons, numberFrom]
      rw [ih _ k (by simpa using h)]
      rfl

def pow17 : Nat → Int
  | 0 => 1
  | k + 1 => pow17 k * 17
theorem numberZ_bd (base : Int) (hb0 : 0 ≤ base) (hb1 : base ≤ 16) (l : List UInt8) : ∀ (k : Nat), k ≤ l.length → 0 ≤ numberZ base (l.take k) ∧ numberZ base (l.take k) + 1 ≤ pow17 k := by
  intro k
  induction k with
  | zero => intro _; simp [numberZ, numberFrom, pow17]
  | succ k ih =>
    intro hk
    have h := ih (by omega)
    have hs := numberFrom_take base l 0 k (by omega)
    have hd := digitOfZ_bd (byteZ l k) (byteZ_lo l k) (byteZ_hi l k)
    have e : numberZ base (l.take (k + 1)) = numberZ base (l.take k) * base + digitOfZ (byteZ l k) := hs
    have hm : numberZ base (l.take k) * base ≤ numberZ base (l.take k) * 16 := Int.mul_le_mul_of_nonneg_left hb1 h.1
    have hm0 : 0 ≤ numberZ base (l.take k) * base := Int.mul_nonneg h.1 hb0
    simp only [pow17]
    rw [e]
    omega

set_option maxHeartbeats 1000000 in
theorem number_any (s : ByteArray) (base : Int) (hs : s.size ≤ 8) (hb0 : 0 ≤ base) (hb1 : base ≤ 16) (w : World) :
    Calls Tryd.prog 70 #[.string s, .int .u8 base] w fun e w' => e = .returned (.int .u64 (numberZ base s.data.toList)) ∧ w = w' := by
  go_enter Tryd.func70, Tryd.ntmps70
  go_wp2
  go_loop [5, 9] (fun a i => ∃ k : Nat, k ≤ s.size ∧ i = .int .i64 k ∧ a = .int .u64 (numberZ base (s.data.toList.take k))) (fun _ i => s.size - (intOf i).toNat)
  case atStart => exact ⟨0, Nat.zero_le _, rfl, rfl⟩
  case round =>
    obtain ⟨k, hk, rfl, rfl⟩ := hrel
    by_cases hlt : k < s.size
    · have hb := byteZ_at s k hlt
      have hlo := byteZ_lo s.data.toList k
      have hhi := byteZ_hi s.data.toList k
      have hdb := digitOfZ_bd (byteZ s.data.toList k) hlo hhi
      have hbd := numberZ_bd base hb0 hb1 s.data.toList k (by rw [listLen]; omega)
      have hp : pow17 k ≤ 410338673 := by
        have : k ≤ 7 := by omega
        clear hbd hdb hb hlo hhi
        match k, this with
        | 0, _ => decide
        | 1, _ => decide
        | 2, _ => decide
        | 3, _ => decide
        | 4, _ => decide
        | 5, _ => decide
        | 6, _ => decide
        | 7, _ => decide
      have HS := Lib.hid (numberFrom_take base s.data.toList 0 k (by rw [listLen]; omega))
      have hm : numberZ base (s.data.toList.take k) * base ≤ numberZ base (s.data.toList.take k) * 16 := Int.mul_le_mul_of_nonneg_left hb1 hbd.1
      have hm0 : 0 ≤ numberZ base (s.data.toList.take k) * base := Int.mul_nonneg hbd.1 hb0
      have HB := Lib.hid hb
      rw [← hb] at hlo hhi hdb
      clear hb
      go_wp2_with (go_at_call 85; refine (digitOf_any _ (by omega) (by omega) _).mono ?_; rintro e w' ⟨rfl, rfl⟩)
      go_round
      case rel => exact ⟨k + 1, by omega, by go_num, by rw [HB.out]; exact congrArg (Value.int IntKind.u64) HS.out.symm⟩
      case measure => simp [intOf]; omega
    · have hke : k = s.size := by omega
      have HK := Lib.hid hke
      clear hke
      go_wp2
      go_ret
      refine ⟨ret_int ?_, rfl⟩
      rw [HK.out, List.take_of_length_le (by rw [listLen]; omega)]

/-- the base that stands behind a % -/
def baseZ (l : List UInt8) : Int :=
  if l.length < 2 then 0
  else if byteZ l 1 = 120 ∨ byteZ l 1 = 88 then 16
  else if byteZ l 1 = 100 ∨ byteZ l 1 = 68 then 10
  else if byteZ l 1 = 98 ∨ byteZ l 1 = 66 then 2 else 0
theorem baseZ_bd (l : List UInt8) : 0 ≤ baseZ l ∧ baseZ l ≤ 16 := by
  unfold baseZ
  repeat' split
  all_goals omega

set_option maxHeartbeats 400000 in
theorem baseOf_any (s : ByteArray) (w : World) :
    Calls Tryd.prog 72 #[.string s] w fun e w' => e = .returned (.int .u8 (baseZ s.data.toList)) ∧ w = w' := by
  by_cases hlt : s.size < 2
  · go_enter Tryd.func72, Tryd.ntmps72
    go_wp2
    go_ret
    refine ⟨ret_int ?_, rfl⟩
    unfold baseZ
    rw [listLen, if_pos hlt]
  · have h1 : 1 < s.size := by omega
    have h1' : 2 ≤ s.size := by omega
    have HB := Lib.hid (byteZ_at s 1 h1)
    go_enter Tryd.func72, Tryd.ntmps72
    go_wp2
    all_goals go_ret
    all_goals refine ⟨ret_int ?_, rfl⟩
    all_goals unfold baseZ
    all_goals rw [listLen, if_neg hlt, ← HB.out]
    all_goals (simp only [beq_iff_eq, beq_eq_false_iff_ne, ne_eq] at *; (repeat' split) <;> omega)

set_option maxHeartbeats 400000 in
theorem valueDigit_any (n base : Int) (h0 : 0 ≤ n) (h1 : n ≤ 255) (b : Nat) (w : World) (hc : w.cell? ⟨b, 0, none⟩ = some (.int .u8 base)) :
    Calls Tryd.prog 86 #[.int .u8 n, .pointer (some ⟨b, 0, none⟩)] w fun e w' => e = .returned (.bool (decide (digitOfZ n < base))) ∧ ∃ m, w' = w.drewN m := by
  have HD := Lib.hid (fun w => digitOf_any n h0 h1 w)
  go_enter Tryd.func86, Tryd.ntmps86
  go_wp2
  go_quiet ((go_at_call 85; exact quiet_left (HD.out _)))
  go_wp2
  go_ret
  exact ⟨rfl, _, rfl⟩

set_option maxHeartbeats 400000 in
theorem span_cap (s : ByteArray) (f : FuncId) (c : Value) (p : Int → Bool) (hs : s.size ≤ 65536) (eg : ∀ (args : Array Value) (w : World), (callFunc f args).run Tryd.prog w = .ok (.enter f args) w) (w : World)
    (hp : ∀ (n : Int) (m : Nat), 0 ≤ n → n ≤ 255 → Calls Tryd.prog f #[.int .u8 n, c] (w.drewN m) fun e w' => e = .returned (.bool (p n)) ∧ ∃ m', w' = w.drewN m') :
    Calls Tryd.prog 62 #[.string s, .func (.func f) #[] #[c]] w fun e w' => e = .returned (.int .i64 (spanZ p s.data.toList)) ∧ ∃ m, w' = w.drewN m := by
  have HP := Lib.hid hp
  clear hp
  go_enter Tryd.func62, Tryd.ntmps62
  go_wp2
  go_loopw [5] (fun i wr => ∃ k m : Nat, k ≤ s.size ∧ i = .int .i64 k ∧ k ≤ spanZ p s.data.toList ∧ wr = w.drewN m) (fun i _ => s.size - (intOf i).toNat)
  case atStart => exact ⟨0, 0, Nat.zero_le _, rfl, Nat.zero_le _, rfl⟩
  case round =>
    obtain ⟨k, m, hk, rfl, hsp, rfl⟩ := hrel
    by_cases hlt : k < s.size
    · have hb := byteZ_at s k hlt
      have hlo := byteZ_lo s.data.toList k
      have hhi := byteZ_hi s.data.toList k
      have HB := Lib.hid hb
      rw [← hb] at hlo hhi
      clear hb
      cases hpc : p (byteZ s.data.toList k) with
      | true =>
        have hst := spanZ_step p s.data.toList k hsp (by rw [listLen]; exact hlt) hpc
        rw [← HB.out] at hpc
        go_wp2_with (go_at_fn f; refine (HP.out _ _ (by omega) (by omega)).mono ?_; rintro e w' ⟨rfl, m', rfl⟩)
        go_roundw
        case rel => exact ⟨k + 1, _, by omega, by go_num, hst, rfl⟩
        case measure => simp [intOf]; omega
      | false =>
        have hst := spanZ_stop p s.data.toList k hsp (by rw [listLen]; exact hlt) hpc
        have HST := Lib.hid hst
        clear hst
        rw [← HB.out] at hpc
        go_wp2_with (go_at_fn f; refine (HP.out _ _ (by omega) (by omega)).mono ?_; rintro e w' ⟨rfl, m', rfl⟩)
        go_ret
        exact ⟨ret_int (by rw [HST.out]), _, rfl⟩
    · have hst : spanZ p s.data.toList = k := by have := spanZ_le p s.data.toList; rw [listLen] at this; omega
      have HST := Lib.hid hst
      clear hst
      go_wp2
      go_ret
      exact ⟨ret_int (by rw [HST.out]), _, rfl⟩

def digitBelow (base : Int) (c : Int) : Bool := decide (digitOfZ c < base)

/-- the value that begins at a place, and the place behind it -/
def valueZ (l : List UInt8) (at_ : Nat) (base : Int) : Option (Int × Nat) :=
  if l.length < at_ then none
  else if spanZ (digitBelow base) (l.drop at_) < 1 ∨ 8 < spanZ (digitBelow base) (l.drop at_) then none
  else if 255 < numberZ base ((l.drop at_).take (spanZ (digitBelow base) (l.drop at_))) then none
  else some (numberZ base ((l.drop at_).take (spanZ (digitBelow base) (l.drop at_))), at_ + spanZ (digitBelow base) (l.drop at_))

def valueV : Option (Int × Nat) → Value
  | none => .tuple #[.int .u8 0, .int .i64 0, .bool false]
  | some (v, k) => .tuple #[.int .u8 v, .int .i64 k, .bool true]

theorem enters_valueDigit : ∀ (args : Array Value) (w : World), (callFunc 86 args).run Tryd.prog w = .ok (.enter 86 args) w := by
  intro args w; simp [go_sem]

set_option maxHeartbeats 1000000 in
theorem readValue_any (s : ByteArray) (at_ : Nat) (base : Int) (hs : s.size ≤ 65536) (hb0 : 0 ≤ base) (hb1 : base ≤ 16) (w : World) :
    Calls Tryd.prog 73 #[.string s, .int .i64 at_, .int .u8 base] w fun e w' => e = .returned (valueV (valueZ s.data.toList at_ base)) ∧ Below w.heap.size w w' := by
  by_cases hat : s.size < at_
  · have hv : valueZ s.data.toList at_ base = none := by unfold valueZ; rw [listLen, if_pos hat]
    rw [hv]
    go_enter Tryd.func73, Tryd.ntmps73
    go_wp2
    go_ret3
    exact ⟨rfl, (Below.refl _ _).alloc (Nat.le_refl _) _⟩
  · have hat' : at_ ≤ s.size := by omega
    have hle := spanZ_le (digitBelow base) (s.data.toList.drop at_)
    rw [List.length_drop, listLen] at hle
    have hx : (s.extract at_ s.size).data.toList = s.data.toList.drop at_ := by
      rw [extract_list, List.take_of_length_le (by rw [List.length_drop, listLen]; omega)]
    have HX := Lib.hid hx
    clear hx
    have HV : Hid (valueZ s.data.toList at_ base = (if spanZ (digitBelow base) (s.data.toList.drop at_) < 1 ∨ 8 < spanZ (digitBelow base) (s.data.toList.drop at_) then none
        else if 255 < numberZ base ((s.data.toList.drop at_).take (spanZ (digitBelow base) (s.data.toList.drop at_))) then none
        else some (numberZ base ((s.data.toList.drop at_).take (spanZ (digitBelow base) (s.data.toList.drop at_))), at_ + spanZ (digitBelow base) (s.data.toList.drop at_)))) := by
      show valueZ s.data.toList at_ base = _
      unfold valueZ
      rw [listLen, if_neg hat]
    generalize hn : spanZ (digitBelow base) (s.data.toList.drop at_) = n at *
    have HN := Lib.hid hn
    clear hn
    go_enter Tryd.func73, Tryd.ntmps73
    go_wp2_with fail
    refine (span_cap _ _ _ (digitBelow base) (by simp; omega) enters_valueDigit _ ?_).mono ?_
    · intro c m h0 h1
      exact (valueDigit_any c base h0 h1 w.heap.size ((w.alloc (.cells #[.int .u8 base] 5)).drewN m) (by simp)).mono fun e w' ⟨he, m', hm⟩ => ⟨he, m + m', by rw [hm, World.drewN_drewN]⟩
    rintro e w' ⟨rfl, m1, rfl⟩
    rw [HX.out, HN.out]
    have hW1 : Below w.heap.size w ((w.alloc (.cells #[.int .u8 base] 5)).drewN m1) := below_drewN ((Below.refl _ _).alloc (Nat.le_refl _) _) _
    have hC1 : ((w.alloc (.cells #[.int .u8 base] 5)).drewN m1).cell? ⟨w.heap.size, 0, none⟩ = some (.int .u8 base) := by simp
    generalize (w.alloc (.cells #[.int .u8 base] 5)).drewN m1 = W1 at *
    by_cases hn1 : n < 1 ∨ 8 < n
    · have HV1 : Hid (valueZ s.data.toList at_ base = none) := by
        show valueZ s.data.toList at_ base = none
        rw [HV.out, if_pos hn1]
      clear HV
      rcases hn1 with h1 | h1
      all_goals
        go_wp2
        go_ret3
        exact ⟨by rw [HV1.out]; rfl, hW1⟩
    · have hn2 : 1 ≤ n := by omega
      have hn8 : n ≤ 8 := by omega
      have HV1 := HV.out
      rw [if_neg hn1] at HV1
      have HV2 := Lib.hid HV1
      clear hn1 HV HV1
      have HNUM := Lib.hid (fun W => number_any (s.extract at_ (at_ + n)) base (by simp; omega) hb0 hb1 W)
      have hx2 : (s.extract at_ (at_ + n)).data.toList = (s.data.toList.drop at_).take n := by rw [extract_list, Nat.add_sub_cancel_left]
      rw [hx2] at HNUM
      clear hx2
      have hnb : 0 ≤ numberZ base ((s.data.toList.drop at_).take n) ∧ numberZ base ((s.data.toList.drop at_).take n) ≤ 9999999999 := by
        have h := numberZ_bd base hb0 hb1 (s.data.toList.drop at_) n (by rw [List.length_drop, listLen]; omega)
        have hp : pow17 n ≤ 6975757441 := by
          clear h HNUM HV2 HN HX
          match n, hn8 with
          | 0, _ => decide
          | 1, _ => decide
          | 2, _ => decide
          | 3, _ => decide
          | 4, _ => decide
          | 5, _ => decide
          | 6, _ => decide
          | 7, _ => decide
          | 8, _ => decide
        omega
      generalize numberZ base ((s.data.toList.drop at_).take n) = v at *
      have e1 : IntKind.i64.wrap ((at_ : Int) + n) = (at_ : Int) + n := IntWalk.i64_in _ (by omega)
      have e2 : 0 ≤ (at_ : Int) + n := by omega
      have e3 : ((at_ : Int) + n).toNat = at_ + n := by omega
      have e4 : (at_ : Int) + n ≤ s.size := by omega
      have e5 : at_ + n ≤ s.size := by omega
      go_wp2
      go_quiet ((go_at_call 70; exact quiet_left (HNUM.out _)))
      clear e1 e2 e3 e4 e5
      by_cases h255 : 255 < v
      · have HV1 : Hid (valueZ s.data.toList at_ base = none) := by
          show valueZ s.data.toList at_ base = none
          rw [HV2.out, if_pos h255]
        clear HV2
        go_wp2
        go_ret3
        exact ⟨by rw [HV1.out]; rfl, below_drewN hW1 _⟩
      · have HV1 : Hid (valueZ s.data.toList at_ base = some (v, at_ + n)) := by
          show valueZ s.data.toList at_ base = _
          rw [HV2.out, if_neg h255]
        clear HV2
        have h255' : v ≤ 255 := by omega
        go_wp2
        go_ret3
        exact ⟨by rw [HV1.out]; simp [valueV], below_drewN hW1 _⟩
end Go.Proofs.YtciabhboiomehaaDoor
