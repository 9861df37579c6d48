/-
  The contract of frankingref01's value. Conditions: a text of at most 65536 bytes, a place within it.
-/
import Derived.Test.YtkidhffloaonaaaRefC
import Derived.Deep.DeepCutAuto
namespace Go.Proofs.Ytkidhffloaonaaa
open Go.RowKit

def refValV (p : Pc) (at_ : Nat) : Value := if p.err = 0 then .tuple #[tokV p.tok, .int .i64 ((at_ : Int) + p.size), .bool true] else .tuple #[tokV {}, .int .i64 0, .bool false]

theorem val_digits (l : List UInt8) (at_ k : Nat) (base : Int) (hb0 : 0 ≤ base) (hb1 : base ≤ 16) (h : at_ ≤ l.length) : valueZ (l.drop at_) k base =
    if spanZ (digitBelow base) (l.drop (at_ + k)) = 0 ∨ digitsZ l (at_ + k) base < 0 ∨ 255 < digitsZ l (at_ + k) base then none else some (digitsZ l (at_ + k) base, k + spanZ (digitBelow base) (l.drop (at_ + k))) := by
  have hd : (l.drop at_).drop k = l.drop (at_ + k) := List.drop_drop
  unfold valueZ digitsZ
  rw [List.length_drop, hd]
  have hle := spanZ_le (digitBelow base) (l.drop (at_ + k))
  rw [List.length_drop] at hle
  have hn := numberZ_bd' base hb0 hb1 (l.drop (at_ + k)) (spanZ (digitBelow base) (l.drop (at_ + k))) (by rw [List.length_drop]; exact hle)
  by_cases h1 : l.length - at_ < k
  · rw [if_pos h1, if_pos (by left; omega)]
  · rw [if_neg h1]
    by_cases h8 : 8 < spanZ (digitBelow base) (l.drop (at_ + k))
    · rw [if_pos (by omega), if_pos h8, if_pos (by omega)]
    · rw [if_neg h8]
      by_cases h0 : spanZ (digitBelow base) (l.drop (at_ + k)) = 0
      · rw [if_pos (by omega), if_pos (by left; exact h0)]
      · rw [if_neg (by omega)]
        by_cases h255 : 255 < numberZ base ((l.drop (at_ + k)).take (spanZ (digitBelow base) (l.drop (at_ + k))))
        · rw [if_pos h255, if_pos (by omega)]
        · rw [if_neg h255, if_neg (by omega)]
theorem stands_drop (l : List UInt8) (at_ k : Nat) (b : Int) : standsB (l.drop at_) k b = standsB l (at_ + k) b := by
  unfold standsB
  rw [byteZ_drop, List.length_drop]
  congr 1
  simp only [decide_eq_decide]
  omega
theorem base_cases (r : List UInt8) (h : 2 ≤ r.length) : baseZ r = if byteZ r 1 = 120 ∨ byteZ r 1 = 88 then 16 else if byteZ r 1 = 100 ∨ byteZ r 1 = 68 then 10 else if byteZ r 1 = 98 ∨ byteZ r 1 = 66 then 2 else 0 := by
  unfold baseZ
  rw [if_neg (by omega)]
theorem valueZ_base0 (r : List UInt8) (k : Nat) : valueZ r k 0 = none := by
  have hz : ∀ l : List UInt8, spanZ (digitBelow 0) l = 0 := by
    intro l
    cases l with
    | nil => rfl
    | cons c r =>
      have := c.toNat_lt
      have hd := digitOfZ_bd c.toNat (by omega) (by omega)
      rw [spanZ, if_neg (by unfold digitBelow; simp; omega)]
  unfold valueZ
  split
  · rfl
  · rw [if_pos (by left; rw [hz]; omega)]
def numOk (n : Nat) (x : Int) : Bool := !(decide (n = 0) || decide (x < 0) || decide (255 < x))
def zeroTokO : Obj := .cells #[.int .u8 0, .int .i64 0, .string ⟨#[]⟩, .int .i64 0, .int .i64 0, .int .u8 0, .int .u8 0] 30

set_option maxRecDepth 100000 in
set_option maxHeartbeats 4000000 in
theorem refValue_any (s : ByteArray) (at_ : Nat) (hs : s.size ≤ 65536) (hat : at_ < s.size) (w : World) :
    Calls Try.prog 55 #[.string s, .int .i64 ((at_ : Int) + 1)] w fun e w' => e = .returned (refValV (valuesP (s.data.toList.drop at_)) at_) ∧ Below w.heap.size w w' := by
  have HLEN := Lib.hid (listLen s)
  have HP := Lib.hid (valuesP.eq_1 (s.data.toList.drop at_))
  generalize valuesP (s.data.toList.drop at_) = P at *
  have hbz := baseZ_bd (s.data.toList.drop at_)
  have HDG := Lib.hid (fun (k : Nat) (hk : at_ + k ≤ 70000) (base : Int) (h0 : 2 ≤ base) (h1 : base ≤ 16) W => refDigits_any s (at_ + k) base hs hk h0 h1 W)
  have HVD := Lib.hid (fun (k : Nat) (base : Int) (h0 : 0 ≤ base) (h1 : base ≤ 16) => val_digits s.data.toList at_ k base h0 h1 (by rw [listLen]; omega))
  have HBASE : Hid (at_ + 1 < s.size → baseZ (s.data.toList.drop at_) = if byteZ s.data.toList (at_ + 1) = 120 ∨ byteZ s.data.toList (at_ + 1) = 88 then 16 else if byteZ s.data.toList (at_ + 1) = 100 ∨ byteZ s.data.toList (at_ + 1) = 68 then 10 else if byteZ s.data.toList (at_ + 1) = 98 ∨ byteZ s.data.toList (at_ + 1) = 66 then 2 else 0) := by
    intro h
    rw [base_cases _ (by rw [List.length_drop, listLen]; omega), byteZ_drop]
  have HBASE2 : Hid (¬ at_ + 1 < s.size → baseZ (s.data.toList.drop at_) = 0) := by
    intro h
    unfold baseZ
    rw [List.length_drop, listLen, if_pos (by omega)]
  have HBVAL : Hid (baseZ (s.data.toList.drop at_) = 0 ∨ 2 ≤ baseZ (s.data.toList.drop at_)) := by
    show _ ∨ _
    unfold baseZ
    (repeat' split) <;> omega
  generalize baseZ (s.data.toList.drop at_) = base at *
  go_enter Try.func55, Try.ntmps55
  go_upto_if 18 with fail
  go_cut [7] (fun b wx => b = .int .i64 base ∧ wx = w.alloc zeroTokO)
  case first =>
    by_cases hlt : at_ + 1 < s.size
    · have hb := HBASE.out hlt
      have HB := Lib.hid (byteZ_at s (at_ + 1) hlt)
      rw [← HB.out] at hb
      have HBE := Lib.hid hb
      have hnn : ((at_ : Int) + 1).toNat = at_ + 1 := by omega
      clear hb
      go_wp2
      all_goals go_meet
      all_goals refine ⟨?_, rfl⟩
      all_goals rw [HBE.out]
      all_goals congr 1
      all_goals simp only [beq_iff_eq, beq_eq_false_iff_ne, ne_eq] at *
      all_goals (repeat' split) <;> omega
    · have hb := HBASE2.out hlt
      have HB := Lib.hid hb
      have hge : s.size ≤ at_ + 1 := by omega
      clear hb
      go_wp2
      go_meet
      exact ⟨by rw [HB.out], rfl⟩
  case rest =>
    obtain ⟨rfl, rfl⟩ := hcut
    unfold zeroTokO
    clear HBASE HBASE2
    rcases HBVAL.out with hb0 | hb2
    · subst hb0
      have HV := Lib.hid (valueZ_base0 (s.data.toList.drop at_) 2)
      go_wp2
      exact bodyPost_ret (v := .tuple #[tokV {}, .int .i64 0, .bool false]) (by simp [results, Try.results55, go_sem, tokV]; rfl) rfl ⟨by rw [HP.out, HV.out]; rfl, (Below.refl _ _).alloc (Nat.le_refl _) _⟩
    · have hb16 := hbz.2
      have hbne : (base == 0) = false := by rw [beq_eq_false_iff_ne]; omega
      have HD2 := Lib.hid (fun W => HDG.out 2 (by omega) base hb2 hb16 W)
      have hv := HVD.out 2 base (by omega) hb16
      have hle := spanZ_le (digitBelow base) (s.data.toList.drop (at_ + 2))
      rw [List.length_drop, HLEN.out] at hle
      rw [hv] at HP
      clear hv HBVAL hbz
      generalize digitsZ s.data.toList (at_ + 2) base = x at *
      generalize spanZ (digitBelow base) (s.data.toList.drop (at_ + 2)) = n at *
      rw [show ((at_ + 2 : Nat) : Int) = (at_ : Int) + 1 + 1 from by omega] at HD2
      by_cases hbad : n = 0 ∨ x < 0 ∨ 255 < x
      · rw [if_pos hbad] at HP
        by_cases hn0 : n = 0
        · subst hn0
          clear hbad
          go_wp2_with fail
          refine (HD2.out _).mono ?_
          rintro e w' ⟨rfl, rfl⟩
          go_wp2
          exact bodyPost_ret (v := .tuple #[tokV {}, .int .i64 0, .bool false]) (by simp [results, Try.results55, go_sem, tokV]; rfl) rfl ⟨by rw [HP.out]; rfl, (Below.refl _ _).alloc (Nat.le_refl _) _⟩
        · have hnb : ((n : Int) == 0) = false := by rw [beq_eq_false_iff_ne]; omega
          have hx : x < 0 ∨ 255 < x := by omega
          clear hbad hn0
          rcases hx with hx | hx
          · go_wp2_with fail
            refine (HD2.out _).mono ?_
            rintro e w' ⟨rfl, rfl⟩
            go_wp2
            exact bodyPost_ret (v := .tuple #[tokV {}, .int .i64 0, .bool false]) (by simp [results, Try.results55, go_sem, tokV]; rfl) rfl ⟨by rw [HP.out]; rfl, (Below.refl _ _).alloc (Nat.le_refl _) _⟩
          · have hx0 : 0 ≤ x := by omega
            go_wp2_with fail
            refine (HD2.out _).mono ?_
            rintro e w' ⟨rfl, rfl⟩
            go_wp2
            exact bodyPost_ret (v := .tuple #[tokV {}, .int .i64 0, .bool false]) (by simp [results, Try.results55, go_sem, tokV]; rfl) rfl ⟨by rw [HP.out]; rfl, (Below.refl _ _).alloc (Nat.le_refl _) _⟩
      · rw [if_neg hbad] at HP
        have hnb : ((n : Int) == 0) = false := by rw [beq_eq_false_iff_ne]; omega
        have hx0 : 0 ≤ x := by omega
        have hx1 : x ≤ 255 := by omega
        have hn1 : 1 ≤ n := by omega
        clear hbad
        have HST := Lib.hid (stands_drop s.data.toList at_ (2 + n) 45)
        go_wp2_with fail
        refine (HD2.out _).mono ?_
        rintro e w' ⟨rfl, rfl⟩
        have hnn2 : ((at_ : Int) + 1 + 1 + n).toNat = at_ + (2 + n) := by omega
        by_cases hlt : at_ + (2 + n) < s.size
        · have hby := byteZ_at s (at_ + (2 + n)) hlt
          by_cases h45 : byteZ s.data.toList (at_ + (2 + n)) = 45
          · have hs45 : standsB s.data.toList (at_ + (2 + n)) 45 = true := by
              rw [standsB, HLEN.out, h45]
              simp [hlt]
            have hv := HVD.out (2 + n + 1) base (by omega) hb16
            have HPR : Hid (P = rangeOf x (valueZ (s.data.toList.drop at_) (2 + n + 1) base)) := by
              show P = _
              rw [HP.out, valuesOf, if_pos (by rw [HST.out]; exact hs45)]
            rw [hv] at HPR
            have HDK := Lib.hid (fun W => HDG.out (2 + n + 1) (by omega) base hb2 hb16 W)
            have hlek := spanZ_le (digitBelow base) (s.data.toList.drop (at_ + (2 + n + 1)))
            rw [List.length_drop, HLEN.out] at hlek
            generalize digitsZ s.data.toList (at_ + (2 + n + 1)) base = y at *
            generalize spanZ (digitBelow base) (s.data.toList.drop (at_ + (2 + n + 1))) = m at *
            rw [show ((at_ + (2 + n + 1) : Nat) : Int) = (at_ : Int) + 1 + 1 + n + 1 from by omega] at HDK
            rw [h45] at hby
            clear hv hs45 h45 HP HST
            have hcs : m = 0 ∨ (m ≠ 0 ∧ y < x) ∨ (m ≠ 0 ∧ x ≤ y ∧ 255 < y) ∨ (m ≠ 0 ∧ x ≤ y ∧ y ≤ 255) := by omega
            have HPW : Hid (¬ (m ≠ 0 ∧ x ≤ y ∧ y ≤ 255) → P = wrongP) := by
              intro h
              rw [HPR.out]
              split
              · rfl
              · rw [rangeOf, if_pos (by omega)]
            rcases hcs with hz | ⟨hz, hy⟩ | ⟨hz, hy1, hy2⟩ | ⟨hz, hy1, hy2⟩
            · have HPV := Lib.hid (HPW.out (by omega))
              subst hz
              clear HPR HPW
              go_wp2_with fail
              refine (HDK.out _).mono ?_
              rintro e w' ⟨rfl, rfl⟩
              go_wp2
              exact bodyPost_ret (v := .tuple #[tokV {}, .int .i64 0, .bool false]) (by simp [results, Try.results55, go_sem, tokV]; rfl) rfl ⟨by rw [HPV.out]; rfl, (Below.refl _ _).alloc (Nat.le_refl _) _⟩
            · have HPV := Lib.hid (HPW.out (by omega))
              have hmb : ((m : Int) == 0) = false := by rw [beq_eq_false_iff_ne]; omega
              clear HPR HPW hz
              go_wp2_with fail
              refine (HDK.out _).mono ?_
              rintro e w' ⟨rfl, rfl⟩
              go_wp2
              exact bodyPost_ret (v := .tuple #[tokV {}, .int .i64 0, .bool false]) (by simp [results, Try.results55, go_sem, tokV]; rfl) rfl ⟨by rw [HPV.out]; rfl, (Below.refl _ _).alloc (Nat.le_refl _) _⟩
            · have HPV := Lib.hid (HPW.out (by omega))
              have hmb : ((m : Int) == 0) = false := by rw [beq_eq_false_iff_ne]; omega
              clear HPR HPW hz
              go_wp2_with fail
              refine (HDK.out _).mono ?_
              rintro e w' ⟨rfl, rfl⟩
              go_wp2
              exact bodyPost_ret (v := .tuple #[tokV {}, .int .i64 0, .bool false]) (by simp [results, Try.results55, go_sem, tokV]; rfl) rfl ⟨by rw [HPV.out]; rfl, (Below.refl _ _).alloc (Nat.le_refl _) _⟩
            · have HPV : Hid (P = { tok := { kind := 12, lo := x, hi := y }, size := 2 + n + 1 + m }) := by
                show P = _
                rw [HPR.out, if_neg (by omega), rangeOf, if_neg (by omega)]
              have hmb : ((m : Int) == 0) = false := by rw [beq_eq_false_iff_ne]; omega
              have hy0 : 0 ≤ y := by omega
              clear HPR HPW hz
              go_wp2_with fail
              refine (HDK.out _).mono ?_
              rintro e w' ⟨rfl, rfl⟩
              go_wp2
              exact bodyPost_ret (v := .tuple #[tokV { kind := 12, lo := x, hi := y }, .int .i64 ((at_ : Int) + 1 + 1 + n + 1 + m), .bool true]) (by simp [results, Try.results55, go_sem, tokV]; rfl) rfl ⟨by rw [HPV.out]; exact congrArg (fun z => Ending.returned (.tuple #[tokV { kind := 12, lo := x, hi := y }, .int .i64 z, .bool true])) (by push_cast; omega), (Below.refl _ _).alloc (Nat.le_refl _) _⟩
          · have hst : standsB s.data.toList (at_ + (2 + n)) 45 = false := by
              rw [standsB, HLEN.out]
              simp [h45]
            have h45b : (((s[at_ + (2 + n)]'hlt).toNat : Int) == 45) = false := by rw [beq_eq_false_iff_ne, hby]; exact h45
            clear hby h45
            have HPB : Hid (P = bytesOf (moreVals (s.data.toList.drop at_) base ((s.data.toList.drop at_).length + 1) (2 + n) [x])) := by
              show P = _
              rw [HP.out, valuesOf, if_neg (by rw [HST.out, hst]; simp)]
            have hrl : (s.data.toList.drop at_).length = s.size - at_ := by rw [List.length_drop, HLEN.out]
            have HRL := Lib.hid hrl
            clear hrl hst
            skip
            go_wp2
            have hown0 : ((w.alloc (.cells zeroTok 30)).alloc (.cells #[.int .u8 x] 5)).ownsRow (w.heap.size + 1) 5 1 (.slice (some ⟨w.heap.size + 1, 0, none⟩) 1 1) 1 [.int .u8 x] := by
              have := World.ownsRow_lit (base := w.heap.size + 1) (e := 5) (size := 1) (w.alloc (.cells zeroTok 30)) #[.int .u8 x] 1 (by simp) (by decide) rfl
              simpa using this
            have hbel0 : Below (w.heap.size + 1) (w.alloc (.cells zeroTok 30)) ((w.alloc (.cells zeroTok 30)).alloc (.cells #[.int .u8 x] 5)) := (Below.refl _ _).alloc (by simp) _
            go_loopw [1, 12] (fun a v wr => ∃ (k f : Nat) (nums : List Int), at_ + k ≤ s.size ∧ a = .int .i64 ((at_ : Int) + k) ∧ wr.ownsRow (w.heap.size + 1) 5 1 v nums.length (nums.map (Value.int .u8)) ∧ 1 ≤ nums.length ∧ nums.length ≤ k ∧ Below (w.heap.size + 1) (w.alloc (.cells zeroTok 30)) wr ∧ w.heap.size + 1 ≤ wr.heap.size ∧ s.size - at_ < f + k ∧ Hid (P = bytesOf (moreVals (s.data.toList.drop at_) base f k nums))) (fun a _ _ => s.size - (intOf a).toNat)
            case atStart => exact ⟨2 + n, (s.data.toList.drop at_).length + 1, [x], by omega, congrArg (Value.int .i64) (by omega), hown0, by simp, by simp; omega, hbel0, by simp, by rw [HRL.out]; omega, HPB⟩
            case round =>
              clear HPB hown0 hbel0
              obtain ⟨k, f, nums, hk, rfl, hown, hm1, hmk, hbel, hwr, hfk, HR⟩ := hrel
              have hR0 : Blk (w.alloc (.cells zeroTok 30)) w.heap.size 30 zeroTok := Blk.new _ _ _
              have hst := stands_drop s.data.toList at_ k 46
              have hkr : k ≤ (s.data.toList.drop at_).length := by rw [HRL.out]; omega
              have hnn : ((at_ : Int) + k).toNat = at_ + k := by omega
              have hlast : standsB s.data.toList (at_ + k) 46 = false → Hid (P = bytesOf (some (nums, k))) := by
                intro h
                show P = _
                rw [HR.out, moreVals_end (by rw [HRL.out]; exact hfk) hkr (by rw [hst]; exact h)]
              by_cases hlt : at_ + k < s.size
              · have hby := byteZ_at s (at_ + k) hlt
                by_cases h46 : byteZ s.data.toList (at_ + k) = 46
                · have hs46 : standsB (s.data.toList.drop at_) k 46 = true := by
                    rw [hst, standsB, HLEN.out, h46]
                    simp [hlt]
                  have hv := HVD.out (k + 1) base (by omega) hb16
                  have HDK := Lib.hid (fun W => HDG.out (k + 1) (by omega) base hb2 hb16 W)
                  have hlek := spanZ_le (digitBelow base) (s.data.toList.drop (at_ + (k + 1)))
                  rw [List.length_drop, HLEN.out] at hlek
                  generalize digitsZ s.data.toList (at_ + (k + 1)) base = y at *
                  generalize spanZ (digitBelow base) (s.data.toList.drop (at_ + (k + 1))) = m at *
                  rw [show ((at_ + (k + 1) : Nat) : Int) = (at_ : Int) + k + 1 from by omega] at HDK
                  rw [h46] at hby
                  by_cases hbad : m = 0 ∨ y < 0 ∨ 255 < y
                  · rw [if_pos hbad] at hv
                    have HPW : Hid (P = wrongP) := by
                      show P = _
                      rw [HR.out, moreVals_none hs46 hv]
                      rfl
                    have hR := hR0.below hbel (by omega)
                    have hcR := hR.cell
                    have hfR := hR.frozen
                    unfold zeroTok at hcR
                    clear hv hs46 hst h46 hlast hR hR0 HR
                    have hmy : m = 0 ∨ (m ≠ 0 ∧ y < 0) ∨ (m ≠ 0 ∧ 255 < y) := by omega
                    clear hbad
                    rcases hmy with hz | ⟨hz, hy⟩ | ⟨hz, hy⟩
                    · subst hz
                      go_wp2_with fail
                      refine (HDK.out _).mono ?_
                      rintro e w' ⟨rfl, rfl⟩
                      go_wp2
                      refine bodyPost_ret (v := .tuple #[tokV {}, .int .i64 0, .bool false]) ?_ rfl ⟨by rw [HPW.out]; rfl, ?_⟩
                      · simp [results, Try.results55, go_sem, tokV, hcR]
                        rfl
                      · iterate 7 refine Below.setCell ?_ (by simp) _
                        exact ((Below.refl _ _).alloc (Nat.le_refl _) _).trans (hbel.mono (by omega))
                    · have hmb : ((m : Int) == 0) = false := by rw [beq_eq_false_iff_ne]; omega
                      clear hz
                      go_wp2_with fail
                      refine (HDK.out _).mono ?_
                      rintro e w' ⟨rfl, rfl⟩
                      go_wp2
                      refine bodyPost_ret (v := .tuple #[tokV {}, .int .i64 0, .bool false]) ?_ rfl ⟨by rw [HPW.out]; rfl, ?_⟩
                      · simp [results, Try.results55, go_sem, tokV, hcR]
                        rfl
                      · iterate 7 refine Below.setCell ?_ (by simp) _
                        exact ((Below.refl _ _).alloc (Nat.le_refl _) _).trans (hbel.mono (by omega))
                    · have hmb : ((m : Int) == 0) = false := by rw [beq_eq_false_iff_ne]; omega
                      have hy0 : 0 ≤ y := by omega
                      clear hz
                      go_wp2_with fail
                      refine (HDK.out _).mono ?_
                      rintro e w' ⟨rfl, rfl⟩
                      go_wp2
                      refine bodyPost_ret (v := .tuple #[tokV {}, .int .i64 0, .bool false]) ?_ rfl ⟨by rw [HPW.out]; rfl, ?_⟩
                      · simp [results, Try.results55, go_sem, tokV, hcR]
                        rfl
                      · iterate 7 refine Below.setCell ?_ (by simp) _
                        exact ((Below.refl _ _).alloc (Nat.le_refl _) _).trans (hbel.mono (by omega))
                  · rw [if_neg hbad] at hv
                    obtain ⟨f, rfl⟩ : ∃ f', f = f' + 1 := ⟨f - 1, by omega⟩
                    have HM := Lib.hid (moreVals_some (f := f) (nums := nums) hs46 hv)
                    have hmb : ((m : Int) == 0) = false := by rw [beq_eq_false_iff_ne]; omega
                    have hy0 : 0 ≤ y := by omega
                    have hy1 : y ≤ 255 := by omega
                    have hm1' : 1 ≤ m := by omega
                    clear hv hs46 hst h46 hlast hbad
                    obtain ⟨i0, hi, hz0, hz1, hz2⟩ := info_parts Try.infoU8
                    go_wp2_with fail
                    refine (HDK.out _).mono ?_
                    rintro e w' ⟨rfl, rfl⟩
                    go_wp2_with (at_builtin; refine wpList_append_own _ rfl _ _ 33 rfl (w.heap.size + 1) 5 i0 (.int .u8 0) 1 1 Try.underlying33 hi hz0 hz1 hz2 rfl (by decide) _ _ _ rfl (hown.alloc _) ⟨wr.heap.size, 0, none⟩ 1 1 [.int .u8 y] rfl rfl ?c1 ?c2 ?c3 ?c4 ?c5 ?_)
                    case c1 =>
                      intro j u hj
                      match j, hj with
                      | 0, hj => simp at hj; subst hj; simp [Addr.add]
                    case c2 => intro u hu; simp at hu; subst hu; rfl
                    case c3 => unfold maxLen; omega
                    case c4 => omega
                    case c5 => simp; omega
                    intro v' w5 hown' hgrow _
                    have hbel5 : Below (w.heap.size + 1) (w.alloc (.cells zeroTok 30)) w5 := (hbel.alloc hwr _).grown hgrow (by simp; omega) (fun g hg => (hown.lt g hg).1)
                    have hw5 : w.heap.size + 1 ≤ w5.heap.size := by have := hgrow.size; simp at this; omega
                    clear hgrow hown
                    go_wp2
                    go_roundw
                    case rel => exact ⟨k + 1 + m, f, nums ++ [y], by omega, congrArg (Value.int .i64) (by omega), by simpa using hown', by simp, by simp; omega, hbel5, hw5, by omega, by show P = _; rw [HR.out, HM.out]⟩
                    case measure => simp [intOf]; omega
                · have HL := hlast (by
                    rw [standsB, HLEN.out]
                    simp [h46])
                  have h46b : (((s[at_ + k]'hlt).toNat : Int) == 46) = false := by rw [beq_eq_false_iff_ne, hby]; exact h46
                  obtain ⟨g, cap, rfl⟩ := own_form hown (by omega)
                  have hcv := run_convert_bytes_arg (P := Try.prog) wr 33 5 Try.underlying33 Try.underlying5 g 0 nums.length cap nums rfl (fun i hi => by
                    rw [Nat.zero_add, hown.cellAt i (by omega)]
                    simp [List.getD, List.getElem?_eq_getElem hi]) 9 Try.underlying9
                  rw [bs_nums] at hcv
                  have hR := hR0.below hbel (by omega)
                  have hcR := hR.cell
                  have hfR := hR.frozen
                  unfold zeroTok at hcR
                  have HOWN := Lib.hid hown
                  clear hown hby h46 hlast hst hR hR0
                  go_wp2
                  refine bodyPost_ret (v := .tuple #[tokV { kind := 11, text := numsText nums }, .int .i64 ((at_ : Int) + k), .bool true]) ?_ rfl ⟨by rw [HL.out]; rfl, ?_⟩
                  · simp [results, Try.results55, go_sem, tokV, hcR]
                  · iterate 7 refine Below.setCell ?_ (by simp) _
                    exact ((Below.refl _ _).alloc (Nat.le_refl _) _).trans (hbel.mono (by omega))
              · have HL := hlast (by
                  rw [standsB, HLEN.out]
                  simp [hlt])
                have hge : s.size ≤ at_ + k := by omega
                obtain ⟨g, cap, rfl⟩ := own_form hown (by omega)
                have hcv := run_convert_bytes_arg (P := Try.prog) wr 33 5 Try.underlying33 Try.underlying5 g 0 nums.length cap nums rfl (fun i hi => by
                  rw [Nat.zero_add, hown.cellAt i (by omega)]
                  simp [List.getD, List.getElem?_eq_getElem hi]) 9 Try.underlying9
                rw [bs_nums] at hcv
                have hR := hR0.below hbel (by omega)
                have hcR := hR.cell
                have hfR := hR.frozen
                unfold zeroTok at hcR
                have HOWN := Lib.hid hown
                clear hown hlast hst hR hR0
                go_wp2
                refine bodyPost_ret (v := .tuple #[tokV { kind := 11, text := numsText nums }, .int .i64 ((at_ : Int) + k), .bool true]) ?_ rfl ⟨by rw [HL.out]; rfl, ?_⟩
                · simp [results, Try.results55, go_sem, tokV, hcR]
                · iterate 7 refine Below.setCell ?_ (by simp) _
                  exact ((Below.refl _ _).alloc (Nat.le_refl _) _).trans (hbel.mono (by omega))
        · have hst : standsB s.data.toList (at_ + (2 + n)) 45 = false := by
            rw [standsB, HLEN.out]
            simp [hlt]
          have hge : s.size ≤ at_ + (2 + n) := by omega
          have HPB : Hid (P = bytesOf (moreVals (s.data.toList.drop at_) base ((s.data.toList.drop at_).length + 1) (2 + n) [x])) := by
            show P = _
            rw [HP.out, valuesOf, if_neg (by rw [HST.out, hst]; simp)]
          have hrl : (s.data.toList.drop at_).length = s.size - at_ := by rw [List.length_drop, HLEN.out]
          have HRL := Lib.hid hrl
          clear hrl hst
          skip
          go_wp2
          have hown0 : ((w.alloc (.cells zeroTok 30)).alloc (.cells #[.int .u8 x] 5)).ownsRow (w.heap.size + 1) 5 1 (.slice (some ⟨w.heap.size + 1, 0, none⟩) 1 1) 1 [.int .u8 x] := by
            have := World.ownsRow_lit (base := w.heap.size + 1) (e := 5) (size := 1) (w.alloc (.cells zeroTok 30)) #[.int .u8 x] 1 (by simp) (by decide) rfl
            simpa using this
          have hbel0 : Below (w.heap.size + 1) (w.alloc (.cells zeroTok 30)) ((w.alloc (.cells zeroTok 30)).alloc (.cells #[.int .u8 x] 5)) := (Below.refl _ _).alloc (by simp) _
          go_loopw [1, 12] (fun a v wr => ∃ (k f : Nat) (nums : List Int), at_ + k ≤ s.size ∧ a = .int .i64 ((at_ : Int) + k) ∧ wr.ownsRow (w.heap.size + 1) 5 1 v nums.length (nums.map (Value.int .u8)) ∧ 1 ≤ nums.length ∧ nums.length ≤ k ∧ Below (w.heap.size + 1) (w.alloc (.cells zeroTok 30)) wr ∧ w.heap.size + 1 ≤ wr.heap.size ∧ s.size - at_ < f + k ∧ Hid (P = bytesOf (moreVals (s.data.toList.drop at_) base f k nums))) (fun a _ _ => s.size - (intOf a).toNat)
          case atStart => exact ⟨2 + n, (s.data.toList.drop at_).length + 1, [x], by omega, congrArg (Value.int .i64) (by omega), hown0, by simp, by simp; omega, hbel0, by simp, by rw [HRL.out]; omega, HPB⟩
          case round =>
            clear HPB hown0 hbel0
            obtain ⟨k, f, nums, hk, rfl, hown, hm1, hmk, hbel, hwr, hfk, HR⟩ := hrel
            have hR0 : Blk (w.alloc (.cells zeroTok 30)) w.heap.size 30 zeroTok := Blk.new _ _ _
            have hst := stands_drop s.data.toList at_ k 46
            have hkr : k ≤ (s.data.toList.drop at_).length := by rw [HRL.out]; omega
            have hnn : ((at_ : Int) + k).toNat = at_ + k := by omega
            have hlast : standsB s.data.toList (at_ + k) 46 = false → Hid (P = bytesOf (some (nums, k))) := by
              intro h
              show P = _
              rw [HR.out, moreVals_end (by rw [HRL.out]; exact hfk) hkr (by rw [hst]; exact h)]
            by_cases hlt : at_ + k < s.size
            · have hby := byteZ_at s (at_ + k) hlt
              by_cases h46 : byteZ s.data.toList (at_ + k) = 46
              · have hs46 : standsB (s.data.toList.drop at_) k 46 = true := by
                  rw [hst, standsB, HLEN.out, h46]
                  simp [hlt]
                have hv := HVD.out (k + 1) base (by omega) hb16
                have HDK := Lib.hid (fun W => HDG.out (k + 1) (by omega) base hb2 hb16 W)
                have hlek := spanZ_le (digitBelow base) (s.data.toList.drop (at_ + (k + 1)))
                rw [List.length_drop, HLEN.out] at hlek
                generalize digitsZ s.data.toList (at_ + (k + 1)) base = y at *
                generalize spanZ (digitBelow base) (s.data.toList.drop (at_ + (k + 1))) = m at *
                rw [show ((at_ + (k + 1) : Nat) : Int) = (at_ : Int) + k + 1 from by omega] at HDK
                rw [h46] at hby
                by_cases hbad : m = 0 ∨ y < 0 ∨ 255 < y
                · rw [if_pos hbad] at hv
                  have HPW : Hid (P = wrongP) := by
                    show P = _
                    rw [HR.out, moreVals_none hs46 hv]
                    rfl
                  have hR := hR0.below hbel (by omega)
                  have hcR := hR.cell
                  have hfR := hR.frozen
                  unfold zeroTok at hcR
                  clear hv hs46 hst h46 hlast hR hR0 HR
                  have hmy : m = 0 ∨ (m ≠ 0 ∧ y < 0) ∨ (m ≠ 0 ∧ 255 < y) := by omega
                  clear hbad
                  rcases hmy with hz | ⟨hz, hy⟩ | ⟨hz, hy⟩
                  · subst hz
                    go_wp2_with fail
                    refine (HDK.out _).mono ?_
                    rintro e w' ⟨rfl, rfl⟩
                    go_wp2
                    refine bodyPost_ret (v := .tuple #[tokV {}, .int .i64 0, .bool false]) ?_ rfl ⟨by rw [HPW.out]; rfl, ?_⟩
                    · simp [results, Try.results55, go_sem, tokV, hcR]
                      rfl
                    · iterate 7 refine Below.setCell ?_ (by simp) _
                      exact ((Below.refl _ _).alloc (Nat.le_refl _) _).trans (hbel.mono (by omega))
                  · have hmb : ((m : Int) == 0) = false := by rw [beq_eq_false_iff_ne]; omega
                    clear hz
                    go_wp2_with fail
                    refine (HDK.out _).mono ?_
                    rintro e w' ⟨rfl, rfl⟩
                    go_wp2
                    refine bodyPost_ret (v := .tuple #[tokV {}, .int .i64 0, .bool false]) ?_ rfl ⟨by rw [HPW.out]; rfl, ?_⟩
                    · simp [results, Try.results55, go_sem, tokV, hcR]
                      rfl
                    · iterate 7 refine Below.setCell ?_ (by simp) _
                      exact ((Below.refl _ _).alloc (Nat.le_refl _) _).trans (hbel.mono (by omega))
                  · have hmb : ((m : Int) == 0) = false := by rw [beq_eq_false_iff_ne]; omega
                    have hy0 : 0 ≤ y := by omega
                    clear hz
                    go_wp2_with fail
                    refine (HDK.out _).mono ?_
                    rintro e w' ⟨rfl, rfl⟩
                    go_wp2
                    refine bodyPost_ret (v := .tuple #[tokV {}, .int .i64 0, .bool false]) ?_ rfl ⟨by rw [HPW.out]; rfl, ?_⟩
                    · simp [results, Try.results55, go_sem, tokV, hcR]
                      rfl
                    · iterate 7 refine Below.setCell ?_ (by simp) _
                      exact ((Below.refl _ _).alloc (Nat.le_refl _) _).trans (hbel.mono (by omega))
                · rw [if_neg hbad] at hv
                  obtain ⟨f, rfl⟩ : ∃ f', f = f' + 1 := ⟨f - 1, by omega⟩
                  have HM := Lib.hid (moreVals_some (f := f) (nums := nums) hs46 hv)
                  have hmb : ((m : Int) == 0) = false := by rw [beq_eq_false_iff_ne]; omega
                  have hy0 : 0 ≤ y := by omega
                  have hy1 : y ≤ 255 := by omega
                  have hm1' : 1 ≤ m := by omega
                  clear hv hs46 hst h46 hlast hbad
                  obtain ⟨i0, hi, hz0, hz1, hz2⟩ := info_parts Try.infoU8
                  go_wp2_with fail
                  refine (HDK.out _).mono ?_
                  rintro e w' ⟨rfl, rfl⟩
                  go_wp2_with (at_builtin; refine wpList_append_own _ rfl _ _ 33 rfl (w.heap.size + 1) 5 i0 (.int .u8 0) 1 1 Try.underlying33 hi hz0 hz1 hz2 rfl (by decide) _ _ _ rfl (hown.alloc _) ⟨wr.heap.size, 0, none⟩ 1 1 [.int .u8 y] rfl rfl ?c1 ?c2 ?c3 ?c4 ?c5 ?_)
                  case c1 =>
                    intro j u hj
                    match j, hj with
                    | 0, hj => simp at hj; subst hj; simp [Addr.add]
                  case c2 => intro u hu; simp at hu; subst hu; rfl
                  case c3 => unfold maxLen; omega
                  case c4 => omega
                  case c5 => simp; omega
                  intro v' w5 hown' hgrow _
                  have hbel5 : Below (w.heap.size + 1) (w.alloc (.cells zeroTok 30)) w5 := (hbel.alloc hwr _).grown hgrow (by simp; omega) (fun g hg => (hown.lt g hg).1)
                  have hw5 : w.heap.size + 1 ≤ w5.heap.size := by have := hgrow.size; simp at this; omega
                  clear hgrow hown
                  go_wp2
                  go_roundw
                  case rel => exact ⟨k + 1 + m, f, nums ++ [y], by omega, congrArg (Value.int .i64) (by omega), by simpa using hown', by simp, by simp; omega, hbel5, hw5, by omega, by show P = _; rw [HR.out, HM.out]⟩
                  case measure => simp [intOf]; omega
              · have HL := hlast (by
                  rw [standsB, HLEN.out]
                  simp [h46])
                have h46b : (((s[at_ + k]'hlt).toNat : Int) == 46) = false := by rw [beq_eq_false_iff_ne, hby]; exact h46
                obtain ⟨g, cap, rfl⟩ := own_form hown (by omega)
                have hcv := run_convert_bytes_arg (P := Try.prog) wr 33 5 Try.underlying33 Try.underlying5 g 0 nums.length cap nums rfl (fun i hi => by
                  rw [Nat.zero_add, hown.cellAt i (by omega)]
                  simp [List.getD, List.getElem?_eq_getElem hi]) 9 Try.underlying9
                rw [bs_nums] at hcv
                have hR := hR0.below hbel (by omega)
                have hcR := hR.cell
                have hfR := hR.frozen
                unfold zeroTok at hcR
                have HOWN := Lib.hid hown
                clear hown hby h46 hlast hst hR hR0
                go_wp2
                refine bodyPost_ret (v := .tuple #[tokV { kind := 11, text := numsText nums }, .int .i64 ((at_ : Int) + k), .bool true]) ?_ rfl ⟨by rw [HL.out]; rfl, ?_⟩
                · simp [results, Try.results55, go_sem, tokV, hcR]
                · iterate 7 refine Below.setCell ?_ (by simp) _
                  exact ((Below.refl _ _).alloc (Nat.le_refl _) _).trans (hbel.mono (by omega))
            · have HL := hlast (by
                rw [standsB, HLEN.out]
                simp [hlt])
              have hge : s.size ≤ at_ + k := by omega
              obtain ⟨g, cap, rfl⟩ := own_form hown (by omega)
              have hcv := run_convert_bytes_arg (P := Try.prog) wr 33 5 Try.underlying33 Try.underlying5 g 0 nums.length cap nums rfl (fun i hi => by
                rw [Nat.zero_add, hown.cellAt i (by omega)]
                simp [List.getD, List.getElem?_eq_getElem hi]) 9 Try.underlying9
              rw [bs_nums] at hcv
              have hR := hR0.below hbel (by omega)
              have hcR := hR.cell
              have hfR := hR.frozen
              unfold zeroTok at hcR
              have HOWN := Lib.hid hown
              clear hown hlast hst hR hR0
              go_wp2
              refine bodyPost_ret (v := .tuple #[tokV { kind := 11, text := numsText nums }, .int .i64 ((at_ : Int) + k), .bool true]) ?_ rfl ⟨by rw [HL.out]; rfl, ?_⟩
              · simp [results, Try.results55, go_sem, tokV, hcR]
              · iterate 7 refine Below.setCell ?_ (by simp) _
                exact ((Below.refl _ _).alloc (Nat.le_refl _) _).trans (hbel.mono (by omega))
end Go.Proofs.Ytkidhffloaonaaa
