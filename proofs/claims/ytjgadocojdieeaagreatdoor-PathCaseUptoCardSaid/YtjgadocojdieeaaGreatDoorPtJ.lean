/-
  A reader's methods: numbers, addresses, a literal's words. Conditions: the reader lies in memory.
-/
import Derived.Test.YtjgadocojdieeaaGreatDoorPtI
namespace Go.Proofs.YtjgadocojdieeaaGreatDoor
open Go.RowKit Go.Shelf

theorem dig_val (c : UInt8) : digB c = true → Lib.digitVal c = some (c.toNat - 48) := all_u8 (P := fun c => digB c = true → Lib.digitVal c = some (c.toNat - 48)) (by decide +kernel) c
theorem dig_sign (c : UInt8) : digB c = true → (c == 45) = false ∧ (c == 43) = false := all_u8 (P := fun c => digB c = true → (c == 45) = false ∧ (c == 43) = false) (by decide +kernel) c
theorem dec_val : ∀ (l : List UInt8) (acc : Nat), (∀ c ∈ l, digB c = true) → Lib.decFrom acc l = some (l.foldl (fun n c => 10 * n + (c.toNat - 48)) acc)
  | [], _, _ => rfl
  | c :: l, acc, h => by
    rw [Lib.decFrom, dig_val c (h c (by simp))]
    simp only
    rw [dec_val l _ (fun d hd => h d (by simp [hd])), List.foldl_cons, Nat.mul_comm acc 10]
theorem atoi_val (l : List UInt8) (h0 : l ≠ []) (h : ∀ c ∈ l, digB c = true) : Lib.atoi l = some ((valD l : Nat) : Int) := by
  cases l with
  | nil => exact absurd rfl h0
  | cons c l =>
    obtain ⟨e1, e2⟩ := dig_sign c (h c (by simp))
    rw [Lib.atoi, e1, e2]
    simp only [Bool.false_eq_true, if_false]
    unfold Lib.decNat
    rw [dec_val (c :: l) 0 h]
    rfl
theorem bytesWorld_low (w : World) (e : TypeId) (t : ByteArray) : Below w.heap.size w (Lib.bytesWorld w e t) := by
  exact ⟨rfl, rfl, rfl, by rw [Lib.bytesWorld_size]; omega, fun j hj => Lib.bytesWorld_at_old w e t j hj⟩
set_option maxRecDepth 100000 in
set_option maxHeartbeats 1000000 in
theorem number_any (m : Nat) : Reads anyI m 73 numberR := by
  intro s r w st _ _ h
  have HR := Lib.hid (run_any h isDigit_any ent_digit)
  have HOUT : Hid (∀ w1 w', RdAt w1 r s (runR digB st) → Kp r w w1 → Below w1.heap.size w1 w' → ∀ b, b = numOk (runL digB st) → ReadOut w r s numberR st (.returned (.bool b)) w') := fun w1 w' h1 h2 h3 b hb => by
    subst hb
    obtain ⟨p, v, hr⟩ := h1
    exact ⟨rfl, ⟨p, v, hr.later h3⟩, h2.of_low h3 (Nat.le_of_lt hr.lt)⟩
  have HDG : Hid (∀ c ∈ runL digB st, digB c = true) := fun c hc => mem_run hc
  have HER : Hid (∀ w1, RdAt w1 r s (runR digB st) → ErrAt w1) := fun w1 h1 => by obtain ⟨p, v, hr⟩ := h1; exact hr.err
  generalize ReadOut w r s numberR st = Q at *
  go_enter Tryz.func73, Tryz.ntmps73
  go_upto_region 2 with (go_at_call 103; refine HR.out.mono ?_; rintro e w1 ⟨rfl, h1, hkp⟩; have H1 := Lib.hid h1; have HKP := Lib.hid hkp; clear h1 hkp)
  have hsz : (bs (runL digB st)).size = (runL digB st).length := rfl
  have HO2 : Hid (∀ w' b, Below w1.heap.size w1 w' → b = numOk (runL digB st) → Q (.returned (.bool b)) w') := fun w' b h1 h2 => HOUT.out w1 w' H1.out HKP.out h1 b h2
  have HE2 := Lib.hid (HER.out w1 H1.out)
  clear HOUT HER HR H1 HKP h
  generalize runL digB st = l at *
  by_cases h3 : l.length ≤ 3
  · by_cases h0 : l = []
    · subst h0
      obtain ⟨ev, v1, v2⟩ := HE2.out
      have HAT := Lib.hid (Tryz.strconv_Atoi_err (bs []) (by decide) rfl ev w1 v1 v2)
      clear HE2 HDG
      have hsz0 : (bs []).size = 0 := rfl
      generalize bs [] = B at *
      clear hsz h3 v1 v2
      go_upto_region 5 with (go_at_call 105; refine HAT.out.mono ?_; rintro e w2 ⟨N, rfl, -, -, hb2⟩; have HB2 := Lib.hid hb2; clear hb2)
      go_wp2
      exact HO2.out w2 _ HB2.out rfl
    · have HAT := Lib.hid (Tryz.strconv_Atoi (bs l) _ (by rw [hsz]; omega) (atoi_val l h0 HDG.out) w1)
      have hnb : ((l.length : Nat) : Int) ≤ 3 := by omega
      have HVL : Hid (∀ b, b = decide (((valD l : Nat) : Int) ≤ 255) → b = numOk l) := fun b hb => by
        subst hb
        unfold numOk
        have e1 : (l != []) = true := by simpa using h0
        rw [e1, decide_eq_true h3]
        simp only [Bool.true_and]
        by_cases hv : valD l ≤ 255
        · rw [decide_eq_true hv, decide_eq_true (by omega)]
        · rw [decide_eq_false hv, decide_eq_false (by omega)]
      clear HE2 HDG h0 h3
      have hsz0 : ((bs l).size : Int) = (l.length : Int) := by rw [hsz]
      generalize bs l = B at *
      clear hsz
      generalize valD l = z at *
      go_wp2_with (go_at_call 105; refine HAT.out.mono ?_; rintro e w2 ⟨rfl, t, hb2⟩; have HB2 := Lib.hid hb2; clear hb2)
      exact HO2.out w2 _ (by rw [HB2.out]; exact bytesWorld_low _ _ _) (HVL.out _ rfl)
  · have hnb : (3 : Int) < (l.length : Int) := by omega
    have hsz0 : ((bs l).size : Int) = (l.length : Int) := by rw [hsz]
    generalize bs l = B at *
    clear hsz
    go_wp2
    exact HO2.out w1 _ (Below.refl _ _) (by unfold numOk; rw [decide_eq_false h3]; simp)
theorem beq_val (n k : Nat) : ((n : Int) == (k : Int)) = decide (n = k) := by
  by_cases h : n = k
  · subst h; simp
  · rw [decide_eq_false h]
    simp
    omega
theorem le_val (a b k : Nat) : decide ((a : Int) + (b : Int) ≤ (k : Int)) = decide (a + b ≤ k) := by
  by_cases h : a + b ≤ k
  · rw [decide_eq_true h, decide_eq_true (by omega)]
  · rw [decide_eq_false h, decide_eq_false (by omega)]
theorem eachF_le {part : Rd} (hp : Suf part) {sep : List UInt8} (hs : sep ≠ []) : ∀ (f many : Nat) (st : Rs), (eachF part sep f many st).1 ≤ many + f
  | 0, _, _ => Nat.le_refl _
  | f + 1, many, st => by
    rw [eachF]
    split
    · simp
    · split
      · simp
      · have := eachF_le hp hs f (many + 1) (part (sepR sep many st).2).2
        omega
theorem eachR_le {part : Rd} (hp : Suf part) {sep : List UInt8} (hs : sep ≠ []) (st : Rs) : (eachR part sep st).1 ≤ st.rest.length + 2 := by
  have := eachF_le hp hs (st.rest.length + 2) 0 st
  unfold eachR
  omega
theorem RdAt.bound {w : World} {r : Nat} {s : List UInt8} {st : Rs} (h : RdAt w r s st) : st.rest.length ≤ s.length := by
  obtain ⟨p, v, hr⟩ := h
  have := hr.count
  omega
set_option maxRecDepth 100000 in
set_option maxHeartbeats 1000000 in
theorem address_any (m : Nat) (hm : m ≤ 4611686018427387900) : Reads anyI m 71 addressR := by
  intro s r w st hs _ h
  have HE1 := Lib.hid (fun (W : World) (t : Rs) (ht : RdAt W r s t) => each_any (sep := [58]) (group_any m) ent_m_group suf_group (by decide) (by decide) any1 any1 ht hs (by omega) trivial)
  have HT1 := Lib.hid (fun (W : World) (t : Rs) (ht : RdAt W r s t) => take_any ht [58, 58] (by decide))
  have h1 := eachR_le (part := groupR) (sep := [58]) suf_group (by decide) st
  have h2 := h.bound
  have h3 := eachR_le (part := groupR) (sep := [58]) suf_group (by decide) (takeR [58, 58] (eachR groupR [58] st).2).2
  have h4 : (takeR [58, 58] (eachR groupR [58] st).2).2.rest.length ≤ st.rest.length := ((suf_take [58, 58] _).trans (suf_each suf_group [58] st)).length_le
  have hn1 : (((eachR groupR [58] st).1 : Nat) : Int) ≤ 4611686018427387902 := by omega
  have hn2 : (((eachR groupR [58] (takeR [58, 58] (eachR groupR [58] st).2).2).1 : Nat) : Int) ≤ 4611686018427387902 := by omega
  clear h1 h2 h3 h4
  have HH := Lib.hid h
  have HOUT : Hid (∀ w' b, RdAt w' r s (addressR st).2 → Kp r w w' → b = (addressR st).1 → ReadOut w r s addressR st (.returned (.bool b)) w') := fun w' b h1 h2 hb => by subst hb; exact ⟨rfl, h1, h2⟩
  generalize ReadOut w r s addressR st = Q at *
  unfold addressR at HOUT
  clear h
  have hmf : ∀ (fn : Fn) (first cap : Array Value) (w : World), (Instr.makeFunc fn first cap).run Tryz.prog w = .ok (.func fn first cap) w := fun _ _ _ _ => rfl
  cases ht : (takeR [58, 58] (eachR groupR [58] st).2).1 with
  | false =>
    rw [if_pos ht] at HOUT
    have HG := Lib.hid ht
    clear ht
    go_enter Tryz.func71, Tryz.ntmps71
    go_wp2_with (first | (go_at_call 72; refine (HE1.out _ _ HH.out).mono ?_; rintro e w1 ⟨rfl, h1, hkp⟩; have H1 := Lib.hid h1; have HKP1 := Lib.hid hkp; clear h1 hkp) | (go_at_call 62; refine (HT1.out _ _ H1.out).mono ?_; rintro e w2 ⟨rfl, h1, hkp⟩; rw [HG.out]; have H2 := Lib.hid h1; have HKP2 := Lib.hid hkp; clear h1 hkp))
    exact HOUT.out w2 _ H2.out (HKP1.out.trans HKP2.out) (beq_val _ 8)
  | true =>
    rw [if_neg (by simp [ht])] at HOUT
    have HG := Lib.hid ht
    clear ht
    go_enter Tryz.func71, Tryz.ntmps71
    go_upto_region 4 with (first | (go_at_call 72; refine (HE1.out _ _ HH.out).mono ?_; rintro e w1 ⟨rfl, h1, hkp⟩; have H1 := Lib.hid h1; have HKP1 := Lib.hid hkp; clear h1 hkp) | (go_at_call 62; refine (HT1.out _ _ H1.out).mono ?_; rintro e w2 ⟨rfl, h1, hkp⟩; rw [HG.out]; have H2 := Lib.hid h1; have HKP2 := Lib.hid hkp; clear h1 hkp))
    generalize (eachR groupR [58] st).1 = n1 at *
    go_wp2_with (go_at_call 72; refine (HE1.out _ _ H2.out).mono ?_; rintro e w3 ⟨rfl, h1, hkp⟩; have H3 := Lib.hid h1; have HKP3 := Lib.hid hkp; clear h1 hkp)
    exact HOUT.out w3 _ H3.out ((HKP1.out.trans HKP2.out).trans HKP3.out) (le_val _ _ 6)
theorem ipv6_val : ipv6P = [105, 112, 118, 54, 58] := rfl
theorem numbers_each (st : Rs) : numbersR st = (decide ((eachR numberR [46] st).1 = 4), (eachR numberR [46] st).2) := rfl
set_option maxRecDepth 100000 in
set_option maxHeartbeats 1000000 in
theorem words_any (m : Nat) (hm : m ≤ 4611686018427387900) : Reads anyI m 42 wordsR := by
  intro s r w st hs _ h
  have HE1 := Lib.hid (fun (W : World) (t : Rs) (ht : RdAt W r s t) => each_any (sep := [46]) (number_any m) ent_m_number suf_number (by decide) (by decide) any1 any1 ht hs (by omega) trivial)
  have HT1 := Lib.hid (fun (W : World) (t : Rs) (ht : RdAt W r s t) => take_any ht ipv6P (by decide))
  have HA1 := Lib.hid (fun (W : World) (t : Rs) (ht : RdAt W r s t) => address_any m hm s r W t hs trivial ht)
  have HH := Lib.hid h
  have HOUT : Hid (∀ w' b, RdAt w' r s (wordsR st).2 → Kp r w w' → b = (wordsR st).1 → ReadOut w r s wordsR st (.returned (.bool b)) w') := fun w' b h1 h2 hb => by subst hb; exact ⟨rfl, h1, h2⟩
  generalize ReadOut w r s wordsR st = Q at *
  unfold wordsR at HOUT
  clear h
  have hmf : ∀ (fn : Fn) (first cap : Array Value) (w : World), (Instr.makeFunc fn first cap).run Tryz.prog w = .ok (.func fn first cap) w := fun _ _ _ _ => rfl
  cases ht : (takeR ipv6P st).1 with
  | false =>
    rw [if_neg (by simp [ht]), numbers_each] at HOUT
    have HG := Lib.hid ht
    clear ht
    go_enter Tryz.func42, Tryz.ntmps42
    go_wp2_with (first | (go_at_call 72; refine (HE1.out _ _ H1.out).mono ?_; rintro e w2 ⟨rfl, h1, hkp⟩; have H2 := Lib.hid h1; have HKP2 := Lib.hid hkp; clear h1 hkp) | (go_at_call 62; refine (HT1.out _ _ HH.out).mono ?_; rintro e w1 ⟨rfl, h1, hkp⟩; rw [HG.out]; have H1 := Lib.hid h1; have HKP1 := Lib.hid hkp; clear h1 hkp))
    exact HOUT.out w2 _ H2.out (HKP1.out.trans HKP2.out) (beq_val _ 4)
  | true =>
    rw [if_pos ht] at HOUT
    have HG := Lib.hid ht
    clear ht
    go_enter Tryz.func42, Tryz.ntmps42
    go_wp2_with (first | (go_at_call 71; refine (HA1.out _ _ H1.out).mono ?_; rintro e w2 ⟨rfl, h1, hkp⟩; have H2 := Lib.hid h1; have HKP2 := Lib.hid hkp; clear h1 hkp) | (go_at_call 62; refine (HT1.out _ _ HH.out).mono ?_; rintro e w1 ⟨rfl, h1, hkp⟩; rw [HG.out]; have H1 := Lib.hid h1; have HKP1 := Lib.hid hkp; clear h1 hkp))
    exact HOUT.out w2 _ H2.out (HKP1.out.trans HKP2.out) rfl
end Go.Proofs.YtjgadocojdieeaaGreatDoor
