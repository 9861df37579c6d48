/-
  A reader's methods: atoms, labels, domains, a literal's words. Conditions: the reader lies in memory.
-/
import Derived.Test.YtjgadocojdieeaaGreatDoorPtE
namespace Go.Proofs.YtjgadocojdieeaaGreatDoor
open Go.RowKit Go.Shelf

def anyI (_ : List UInt8) (_ : Rs) : Prop := True
theorem any1 {g : Rd} : ∀ s st, anyI s st → (g st).1 = true → anyI s (g st).2 := fun _ _ _ _ => trivial
theorem bs_toL (l : List UInt8) : (bs l).toList = l := by rw [Lib.toList_data]; rfl
theorem not_empty (l : List UInt8) : (!(bs l).toList.isEmpty) = (l != []) := by
  rw [bs_toL]
  cases l <;> rfl
theorem ent_m_atom : Ent 124 := enters_of Tryz.func124 (by kernel_rfl) rfl
theorem ent_m_atoms : Ent 107 := enters_of Tryz.func107 (by kernel_rfl) rfl
theorem ent_m_group : Ent 102 := enters_of Tryz.func102 (by kernel_rfl) rfl
theorem ent_m_number : Ent 73 := enters_of Tryz.func73 (by kernel_rfl) rfl
theorem ent_m_label : Ent 101 := enters_of Tryz.func101 (by kernel_rfl) rfl
theorem ent_m_labels : Ent 69 := enters_of Tryz.func69 (by kernel_rfl) rfl
theorem ent_m_domain : Ent 41 := enters_of Tryz.func41 (by kernel_rfl) rfl
theorem ent_m_address : Ent 71 := enters_of Tryz.func71 (by kernel_rfl) rfl
theorem ent_m_words : Ent 42 := enters_of Tryz.func42 (by kernel_rfl) rfl
theorem ent_m_hop : Ent 94 := enters_of Tryz.func94 (by kernel_rfl) rfl
theorem ent_m_quoted : Ent 75 := enters_of Tryz.func75 (by kernel_rfl) rfl
theorem ent_m_plain : Ent 76 := enters_of Tryz.func76 (by kernel_rfl) rfl
theorem ent_m_bracket : Ent 77 := enters_of Tryz.func77 (by kernel_rfl) rfl
theorem ent_m_named : Ent 78 := enters_of Tryz.func78 (by kernel_rfl) rfl
theorem ent_m_mailbox : Ent 44 := enters_of Tryz.func44 (by kernel_rfl) rfl
theorem ent_m_route : Ent 63 := enters_of Tryz.func63 (by kernel_rfl) rfl
theorem ent_m_full : Ent 31 := enters_of Tryz.func31 (by kernel_rfl) rfl
theorem ent_m_alone : Ent 30 := enters_of Tryz.func30 (by kernel_rfl) rfl
theorem ent_m_null : Ent 29 := enters_of Tryz.func29 (by kernel_rfl) rfl
set_option maxRecDepth 100000 in
set_option maxHeartbeats 1000000 in
theorem atom_any (m : Nat) : Reads anyI m 124 atomR := by
  intro s r w st _ _ h
  have HR := Lib.hid (run_any h isOfAtom_any ent_atom)
  have HOUT : Hid (∀ w', RdAt w' r s (runR atmB st) → Kp r w w' → ∀ b, b = (runL atmB st != []) → ReadOut w r s atomR st (.returned (.bool b)) w') := fun w' h1 h2 b hb => by subst hb; exact ⟨rfl, h1, h2⟩
  generalize ReadOut w r s atomR st = Q at *
  go_enter Tryz.func124, Tryz.ntmps124
  go_wp2_with (go_at_call 103; refine HR.out.mono ?_; rintro e w1 ⟨rfl, h1, hkp⟩; have H1 := Lib.hid h1; have HKP := Lib.hid hkp; clear h1 hkp)
  exact HOUT.out w1 H1.out HKP.out _ (not_empty _)
theorem group_val (l : List UInt8) : (!(bs l).toList.isEmpty && decide (((bs l).size : Int) ≤ 4)) = (l != [] && decide (l.length ≤ 4)) := by
  rw [not_empty, bs_size]
  congr 1
  by_cases h : l.length ≤ 4
  · rw [decide_eq_true h, decide_eq_true (by omega)]
  · rw [decide_eq_false h, decide_eq_false (by omega)]
set_option maxRecDepth 100000 in
set_option maxHeartbeats 1000000 in
theorem group_any (m : Nat) : Reads anyI m 102 groupR := by
  intro s r w st _ _ h
  have HR := Lib.hid (run_any h isHex_any ent_hex)
  have HOUT : Hid (∀ w', RdAt w' r s (runR hexB st) → Kp r w w' → ∀ b, b = (runL hexB st != [] && decide ((runL hexB st).length ≤ 4)) → ReadOut w r s groupR st (.returned (.bool b)) w') := fun w' h1 h2 b hb => by subst hb; exact ⟨rfl, h1, h2⟩
  generalize ReadOut w r s groupR st = Q at *
  go_enter Tryz.func102, Tryz.ntmps102
  go_wp2_with (go_at_call 103; refine HR.out.mono ?_; rintro e w1 ⟨rfl, h1, hkp⟩; have H1 := Lib.hid h1; have HKP := Lib.hid hkp; clear h1 hkp)
  all_goals refine HOUT.out w1 H1.out HKP.out _ ?_
  all_goals first | exact group_val _ | (rename_i he; rw [bs_toL] at he; rw [he]; rfl)
/-- of a label: its bytes' places -/
theorem labOk_form : ∀ l : List UInt8, match l with | [] => labOk ([] : List UInt8) = false | c :: t => ∃ n d, t.length = n ∧ (c :: t)[n]? = some d ∧ labOk (c :: t) = (decide (¬ (c.toNat : Int) = 45) && decide (¬ (d.toNat : Int) = 45))
  | [] => rfl
  | c :: t => by
    refine ⟨t.length, (c :: t).getLast (by simp), rfl, ?_, ?_⟩
    · rw [List.getLast_eq_getElem, ← List.getElem?_eq_getElem]
      rfl
    · have hz : ∀ x : UInt8, (some x != some 45) = decide (¬ (x.toNat : Int) = 45) := all_u8 (by decide +kernel)
      unfold labOk
      rw [List.getLast?_eq_some_getLast (by simp), List.head?_cons, hz, hz]
      rfl
theorem label_len {st : Rs} : (runL labB st).length ≤ st.rest.length := by
  unfold runL
  have := congrArg List.length (List.takeWhile_append_dropWhile (p := labB) (l := st.rest))
  rw [List.length_append] at this
  omega
set_option maxRecDepth 100000 in
set_option maxHeartbeats 1000000 in
theorem label_any (m : Nat) : Reads anyI m 101 labelR := by
  intro s r w st _ _ h
  have HR := Lib.hid (run_any h isOfLabel_any ent_label)
  have HOUT : Hid (∀ w1 w2 b, Kp r w w1 → LimOut w1 r s (decide ((63 : Int) < ((runL labB st).length : Int))) (runR labB st) (.returned (.tuple #[])) w2 → b = labOk (runL labB st) → ReadOut w r s labelR st (.returned (.bool b)) w2) := fun w1 w2 b h1 h2 hb => by
    obtain ⟨_, h3, h4⟩ := h2
    subst hb
    refine ⟨rfl, ?_, h1.trans h4⟩
    have : limitR (decide ((63 : Int) < ((runL labB st).length : Int))) (runR labB st) = (labelR st).2 := by
      unfold limitR labelR
      simp only [runR]
      congr 2
      simp
      omega
    rw [← this]
    exact h3
  generalize ReadOut w r s labelR st = Q at *
  go_enter Tryz.func101, Tryz.ntmps101
  go_upto_region 3 with (first | (go_at_call 103; refine HR.out.mono ?_; rintro e w1 ⟨rfl, h1, hkp⟩; have H1 := Lib.hid h1; have HKP := Lib.hid hkp; clear h1 hkp) | (go_at_call 70; refine (limit_any H1.out _ _).mono ?_; rintro e w2 hh; obtain ⟨rfl, -⟩ := id hh; have H2 := Lib.hid hh; clear hh))
  have hlb := labOk_form (runL labB st)
  have hsz : (bs (runL labB st)).size = (runL labB st).length := rfl
  rw [hsz] at H2
  have HO2 : Hid (∀ b, b = labOk (runL labB st) → Q (.returned (.bool b)) w2) := fun b hb => HOUT.out w1 w2 b HKP.out H2.out hb
  have hbig : (runL labB st).length ≤ 9223372036854775807 := by
    obtain ⟨p, v, hr⟩ := h
    have h1 := hr.count
    have h2 := hr.len
    have h3 := @label_len st
    omega
  clear HOUT H2 HR H1 HKP h
  generalize runL labB st = l at *
  cases l with
  | nil =>
    have hT := bs_toL []
    generalize bs [] = B at *
    go_wp2
    exact HO2.out _ hlb.symm
  | cons c t =>
    obtain ⟨n, d, hn, hd, hlo⟩ := hlb
    rw [hlo] at HO2
    have hT := bs_toL (c :: t)
    have hs1 : ∀ W, (Instr.index 9 (.string (bs (c :: t))) (.int .i64 0)).run Tryz.prog W = .ok (.int .u8 (c.toNat : Int)) W := fun W => str_at (c :: t) 0 (by simp) W
    have hs2 : ∀ W, (Instr.index 9 (.string (bs (c :: t))) (.int .i64 (n : Int))).run Tryz.prog W = .ok (.int .u8 (d.toNat : Int)) W := fun W => by
      obtain ⟨h1, h2⟩ := List.getElem?_eq_some_iff.1 hd
      rw [← h2]
      exact str_at (c :: t) n h1 W
    have hsn : ((bs (c :: t)).size : Int) = (n : Int) + 1 := by rw [hsz, List.length_cons, hn]; rfl
    have hnb : (n : Int) + 1 ≤ 9223372036854775807 := by rw [List.length_cons, hn] at hbig; omega
    clear hsz hd hn hlo hbig
    generalize bs (c :: t) = B at *
    by_cases hc : (c.toNat : Int) = 45
    · go_wp2
      exact HO2.out _ (by simp [hc])
    · by_cases hd : (d.toNat : Int) = 45
      · go_wp2
        exact HO2.out _ (by simp [hd])
      · go_wp2
        exact HO2.out _ (by simp [hc, hd])
def big : Nat := 4611686018427387904
theorem pos_val (n : Nat) : decide ((0 : Int) < (n : Int)) = decide (0 < n) := by
  by_cases h : 0 < n
  · rw [decide_eq_true h, decide_eq_true (by omega)]
  · rw [decide_eq_false h, decide_eq_false (by omega)]
set_option maxRecDepth 100000 in
set_option maxHeartbeats 1000000 in
theorem atoms_any (m : Nat) (hm : m ≤ 4611686018427387904) : Reads anyI m 107 atomsR := by
  intro s r w st hs _ h
  have HE1 := Lib.hid (each_any (sep := [46]) (atom_any m) ent_m_atom suf_atom (by decide) (by decide) any1 any1 h hs hm trivial)
  have HOUT : Hid (∀ w', RdAt w' r s (eachR atomR [46] st).2 → Kp r w w' → ∀ b, b = decide (0 < (eachR atomR [46] st).1) → ReadOut w r s atomsR st (.returned (.bool b)) w') := fun w' h1 h2 b hb => by subst hb; exact ⟨rfl, h1, h2⟩
  generalize ReadOut w r s atomsR st = Q at *
  have hmf : ∀ (fn : Fn) (first cap : Array Value) (w : World), (Instr.makeFunc fn first cap).run Tryz.prog w = .ok (.func fn first cap) w := fun _ _ _ _ => rfl
  go_enter Tryz.func107, Tryz.ntmps107
  go_wp2_with (go_at_call 72; refine HE1.out.mono ?_; rintro e w1 ⟨rfl, h1, hkp⟩; have H1 := Lib.hid h1; have HKP1 := Lib.hid hkp; clear h1 hkp)
  exact HOUT.out w1 H1.out HKP1.out _ (by first | rfl | exact pos_val _)
set_option maxRecDepth 100000 in
set_option maxHeartbeats 1000000 in
theorem labels_any (m : Nat) (hm : m ≤ 4611686018427387904) : Reads anyI m 69 labelsR := by
  intro s r w st hs _ h
  have HE1 := Lib.hid (each_any (sep := [46]) (label_any m) ent_m_label suf_label (by decide) (by decide) any1 any1 h hs hm trivial)
  have HOUT : Hid (∀ w', RdAt w' r s (eachR labelR [46] st).2 → Kp r w w' → ∀ b, b = decide (0 < (eachR labelR [46] st).1) → ReadOut w r s labelsR st (.returned (.bool b)) w') := fun w' h1 h2 b hb => by subst hb; exact ⟨rfl, h1, h2⟩
  generalize ReadOut w r s labelsR st = Q at *
  have hmf : ∀ (fn : Fn) (first cap : Array Value) (w : World), (Instr.makeFunc fn first cap).run Tryz.prog w = .ok (.func fn first cap) w := fun _ _ _ _ => rfl
  go_enter Tryz.func69, Tryz.ntmps69
  go_wp2_with (go_at_call 72; refine HE1.out.mono ?_; rintro e w1 ⟨rfl, h1, hkp⟩; have H1 := Lib.hid h1; have HKP1 := Lib.hid hkp; clear h1 hkp)
  exact HOUT.out w1 H1.out HKP1.out _ (by first | rfl | exact pos_val _)
set_option maxRecDepth 100000 in
set_option maxHeartbeats 1000000 in
theorem domain_any (m : Nat) (hm : m ≤ 4611686018427387904) : Reads anyI m 41 domainR := by
  intro s r w st hs _ h
  have HP := Lib.hid (piece_any (labels_any m hm) ent_m_labels suf_labels h hs trivial)
  have HOUT : Hid (∀ w1 w2 b, Kp r w w1 → LimOut w1 r s (decide ((255 : Int) < ((used st (labelsR st).2).length : Int))) (labelsR st).2 (.returned (.tuple #[])) w2 → b = (labelsR st).1 → ReadOut w r s domainR st (.returned (.bool b)) w2) := fun w1 w2 b h1 h2 hb => by
    obtain ⟨_, h3, h4⟩ := h2
    subst hb
    refine ⟨rfl, ?_, h1.trans h4⟩
    have : limitR (decide ((255 : Int) < ((used st (labelsR st).2).length : Int))) (labelsR st).2 = (domainR st).2 := by
      unfold limitR domainR
      simp only
      congr 2
      by_cases hh : 255 < (used st (labelsR st).2).length
      · rw [decide_eq_true hh, decide_eq_true (by omega)]
      · rw [decide_eq_false hh, decide_eq_false (by omega)]
    rw [← this]
    exact h3
  generalize ReadOut w r s domainR st = Q at *
  have hsz : (bs (used st (labelsR st).2)).size = (used st (labelsR st).2).length := rfl
  have hmf : ∀ (fn : Fn) (first cap : Array Value) (w : World), (Instr.makeFunc fn first cap).run Tryz.prog w = .ok (.func fn first cap) w := fun _ _ _ _ => rfl
  go_enter Tryz.func41, Tryz.ntmps41
  go_wp2_with (first | (go_at_call 68; refine HP.out.mono ?_; rintro e w1 ⟨rfl, h1, hkp⟩; have H1 := Lib.hid h1; have HKP1 := Lib.hid hkp; clear h1 hkp) | (go_at_call 70; refine (limit_any H1.out _ _).mono ?_; rintro e w2 hh; obtain ⟨rfl, -⟩ := id hh; have H2 := Lib.hid hh; clear hh))
  exact HOUT.out w1 w2 _ HKP1.out H2.out rfl
end Go.Proofs.YtjgadocojdieeaaGreatDoor
