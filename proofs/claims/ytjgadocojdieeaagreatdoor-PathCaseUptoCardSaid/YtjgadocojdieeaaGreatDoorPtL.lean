/-
  A reader's methods: mean, plain, named, bracket. Conditions: the reader lies in memory; its text is of at most 2^48 bytes.
-/
import Derived.Test.YtjgadocojdieeaaGreatDoorPtK
namespace Go.Proofs.YtjgadocojdieeaaGreatDoor
open Go.RowKit Go.Shelf

def MeanOut (w : World) (r : Nat) (s : List UInt8) (m : List UInt8) (st : Rs) (e : Ending) (w' : World) : Prop := e = .returned (.tuple #[]) ∧ RdAt w' r s (meanR m st) ∧ Kp r w w'
set_option maxRecDepth 100000 in
set_option maxHeartbeats 1000000 in
theorem mean_any {w : World} {r : Nat} {s : List UInt8} {st : Rs} (h : RdAt w r s st) (m : List UInt8) : Calls Tryz.prog 106 #[.pointer (some ⟨r, 0, none⟩), .string (bs m)] w (MeanOut w r s m st) := by
  have HL := Lib.hid (limit_any h ((m.length : Nat) : Int) 64)
  have HOUT : Hid (∀ w1, RdAt w1 r s (limitR (decide ((64 : Int) < (m.length : Int))) st) → Kp r w w1 → (w1.frozen? ⟨r, 4, none⟩ = false ∧ ∃ u, w1.cell? ⟨r, 4, none⟩ = some u) ∧ MeanOut w r s m st (.returned (.tuple #[])) (w1.setCell ⟨r, 4, none⟩ (.string (bs m)))) := fun w1 h1 hk => by
    obtain ⟨p, v, hr⟩ := h1
    refine ⟨⟨hr.cells.frozen 4, _, hr.cells.cell 4⟩, rfl, ⟨p, v, ?_⟩, hk.set_ hr.cells 4 _⟩
    have : limitR (decide ((64 : Int) < (m.length : Int))) st = limitR (decide (64 < m.length)) st := by
      congr 1
      by_cases h : 64 < m.length
      · rw [decide_eq_true h, decide_eq_true (by omega)]
      · rw [decide_eq_false h, decide_eq_false (by omega)]
    rw [this] at hr
    exact hr.put 4 _ rfl rfl hr.place hr.rest
  have hsz : ((bs m).size : Int) = (m.length : Int) := rfl
  generalize MeanOut w r s m st = Q at *
  go_enter Tryz.func106, Tryz.ntmps106
  go_upto_region 1 with (go_at_call 70; refine HL.out.mono ?_; rintro e w1 ⟨rfl, h1, hkp⟩; obtain ⟨⟨f4, u, c4⟩, hq⟩ := HOUT.out w1 h1 hkp; have HQ := Lib.hid hq; clear h1 hkp hq)
  go_wp2
  go_end0
  exact HQ.out
theorem clone_any (l : List UInt8) (hl : l.length ≤ 281474976710656) (w : World) : Calls Tryz.prog 108 #[.string (bs l)] w fun e w' => e = .returned (.string (bs l)) ∧ Below w.heap.size w w' := by
  have HC := Lib.hid (Tryz.stringslite_Clone (bs l) w (by rw [bs_size]; exact hl))
  go_enter Tryz.func108, Tryz.ntmps108
  go_wp2_with (go_at_call 125; refine HC.out.mono ?_; rintro e w1 ⟨rfl, hb⟩; have HB := Lib.hid hb; clear hb)
  go_ret
  exact ⟨rfl, HB.out⟩
theorem RdAt.later {w w' : World} {r : Nat} {s : List UInt8} {st : Rs} (h : RdAt w r s st) (hb : Below w.heap.size w w') : RdAt w' r s st := by
  obtain ⟨p, v, h⟩ := h
  exact ⟨p, v, h.later hb⟩
theorem RdAt.lt {w : World} {r : Nat} {s : List UInt8} {st : Rs} (h : RdAt w r s st) : r < w.heap.size := by
  obtain ⟨p, v, h⟩ := h
  exact h.lt
theorem used_len_le (a b : Rs) : (used a b).length ≤ a.rest.length := by unfold used; rw [List.length_take]; omega
set_option maxRecDepth 100000 in
set_option maxHeartbeats 1000000 in
theorem plain_any (m : Nat) (hm : m ≤ 281474976710656) : Reads anyI m 76 plainR := by
  intro s r w st hs _ h
  have HP := Lib.hid (piece_any (atoms_any m (by omega)) ent_m_atoms suf_atoms h hs trivial)
  have HCL := Lib.hid (fun W => clone_any (used st (atomsR st).2) (by have := used_len_le st (atomsR st).2; have := h.bound; omega) W)
  have HOUT : Hid (∀ w1 w2 w3, RdAt w1 r s (atomsR st).2 → Kp r w w1 → Below w1.heap.size w1 w2 → MeanOut w2 r s (used st (atomsR st).2) (atomsR st).2 (.returned (.tuple #[])) w3 → ReadOut w r s plainR st (.returned (.bool (atomsR st).1)) w3) := fun w1 w2 w3 h1 h2 h3 h4 => by
    obtain ⟨_, k1, k2⟩ := h4
    exact ⟨rfl, k1, (h2.of_low h3 (Nat.le_of_lt h1.lt)).trans k2⟩
  generalize ReadOut w r s plainR st = Q at *
  have hmf : ∀ (fn : Fn) (first cap : Array Value) (w : World), (Instr.makeFunc fn first cap).run Tryz.prog w = .ok (.func fn first cap) w := fun _ _ _ _ => rfl
  clear h
  go_enter Tryz.func76, Tryz.ntmps76
  go_wp2_with (first | (go_at_call 68; refine HP.out.mono ?_; rintro e w1 ⟨rfl, h1, hkp⟩; have H1 := Lib.hid h1; have HKP1 := Lib.hid hkp; clear h1 hkp) | (go_at_call 108; refine (HCL.out _).mono ?_; rintro e w2 ⟨rfl, hb⟩; have HB2 := Lib.hid hb; clear hb) | (go_at_call 106; refine (mean_any (H1.out.later HB2.out) _).mono ?_; rintro e w3 hh; obtain ⟨rfl, -⟩ := id hh; have H3 := Lib.hid hh; clear hh))
  exact HOUT.out w1 w2 w3 H1.out HKP1.out HB2.out H3.out
set_option maxRecDepth 100000 in
set_option maxHeartbeats 1000000 in
theorem named_any (m : Nat) (hm : m ≤ 281474976710656) : Reads anyI m 78 namedR := by
  intro s r w st hs _ h
  have HP := Lib.hid (piece_any (domain_any m (by omega)) ent_m_domain suf_domain h hs trivial)
  have HIS := Lib.hid (fun W => inSmall_any (used st (domainR st).2) (by have := used_len_le st (domainR st).2; have := h.bound; omega) W)
  have HOUT : Hid (∀ w1 w2, RdAt w1 r s (domainR st).2 → Kp r w w1 → Below w1.heap.size w1 w2 → (w2.frozen? ⟨r, 5, none⟩ = false ∧ ∃ u, w2.cell? ⟨r, 5, none⟩ = some u) ∧ ReadOut w r s namedR st (.returned (.bool (domainR st).1)) (w2.setCell ⟨r, 5, none⟩ (.string (bs (low (used st (domainR st).2)))))) := fun w1 w2 h1 h2 h3 => by
    obtain ⟨p, v, hr⟩ := h1.later h3
    exact ⟨⟨hr.cells.frozen 5, _, hr.cells.cell 5⟩, rfl, ⟨p, v, hr.put 5 _ rfl rfl hr.place hr.rest⟩, (h2.of_low h3 (Nat.le_of_lt h1.lt)).set_ hr.cells 5 _⟩
  generalize ReadOut w r s namedR st = Q at *
  have hmf : ∀ (fn : Fn) (first cap : Array Value) (w : World), (Instr.makeFunc fn first cap).run Tryz.prog w = .ok (.func fn first cap) w := fun _ _ _ _ => rfl
  clear h
  go_enter Tryz.func78, Tryz.ntmps78
  go_wp2_with (first | (go_at_call 68; refine HP.out.mono ?_; rintro e w1 ⟨rfl, h1, hkp⟩; have H1 := Lib.hid h1; have HKP1 := Lib.hid hkp; clear h1 hkp) | (go_at_call 79; refine (HIS.out _).mono ?_; rintro e w2 ⟨rfl, hb⟩; obtain ⟨⟨f5, u, c5⟩, hq⟩ := HOUT.out w1 w2 H1.out HKP1.out hb; have HQ := Lib.hid hq; clear hb hq))
  exact HQ.out
set_option maxRecDepth 100000 in
set_option maxHeartbeats 1000000 in
theorem bracket_any (m : Nat) (hm : m ≤ 281474976710656) : Reads anyI m 77 bracketR := by
  intro s r w st hs _ h
  have HT1 := Lib.hid (take_any h [91] (by decide))
  have HP := Lib.hid (fun (W : World) (hW : RdAt W r s (takeR [91] st).2) => piece_any (words_any m (by omega)) ent_m_words suf_words hW hs trivial)
  have HT3 := Lib.hid (fun (W : World) (hW : RdAt W r s (wordsR (takeR [91] st).2).2) => take_any hW [93] (by decide))
  have HIS := Lib.hid (fun W => inSmall_any (used (takeR [91] st).2 (wordsR (takeR [91] st).2).2) (by have := used_len_le (takeR [91] st).2 (wordsR (takeR [91] st).2).2; have := h.bound; have := (suf_take [91] st).length_le; omega) W)
  have HNO1 : Hid (∀ w1, (takeR [91] st).1 = false → RdAt w1 r s (takeR [91] st).2 → Kp r w w1 → ReadOut w r s bracketR st (.returned (.bool false)) w1) := fun w1 hg h1 h2 => by
    unfold ReadOut bracketR
    rw [if_pos hg]
    exact ⟨rfl, h1, h2⟩
  have HNO2 : Hid (∀ w1, (takeR [91] st).1 = true → (wordsR (takeR [91] st).2).1 = false → RdAt w1 r s (wordsR (takeR [91] st).2).2 → Kp r w w1 → ReadOut w r s bracketR st (.returned (.bool false)) w1) := fun w1 hg hg2 h1 h2 => by
    unfold ReadOut bracketR
    rw [if_neg (by simp [hg]), if_pos hg2]
    exact ⟨rfl, h1, h2⟩
  have HNO3 : Hid (∀ w1, (takeR [91] st).1 = true → (wordsR (takeR [91] st).2).1 = true → (takeR [93] (wordsR (takeR [91] st).2).2).1 = false → RdAt w1 r s (takeR [93] (wordsR (takeR [91] st).2).2).2 → Kp r w w1 → ReadOut w r s bracketR st (.returned (.bool false)) w1) := fun w1 hg hg2 hg3 h1 h2 => by
    unfold ReadOut bracketR
    rw [if_neg (by simp [hg]), if_neg (by simp [hg2]), if_pos hg3]
    exact ⟨rfl, h1, h2⟩
  have HYES : Hid (∀ w1 w2, (takeR [91] st).1 = true → (wordsR (takeR [91] st).2).1 = true → (takeR [93] (wordsR (takeR [91] st).2).2).1 = true → RdAt w1 r s (takeR [93] (wordsR (takeR [91] st).2).2).2 → Kp r w w1 → Below w1.heap.size w1 w2 →
      (w2.frozen? ⟨r, 5, none⟩ = false ∧ w2.frozen? ⟨r, 6, none⟩ = false ∧ (∃ u, w2.cell? ⟨r, 5, none⟩ = some u) ∧ ∃ u, w2.cell? ⟨r, 6, none⟩ = some u) ∧ ReadOut w r s bracketR st (.returned (.bool true)) ((w2.setCell ⟨r, 5, none⟩ (.string (bs (low (used (takeR [91] st).2 (wordsR (takeR [91] st).2).2))))).setCell ⟨r, 6, none⟩ (.bool true))) := fun w1 w2 hg hg2 hg3 h1 h2 h3 => by
    unfold ReadOut bracketR
    rw [if_neg (by simp [hg]), if_neg (by simp [hg2]), if_neg (by simp [hg3])]
    obtain ⟨p, v, hr⟩ := h1.later h3
    have hr2 := hr.put (st' := { (takeR [93] (wordsR (takeR [91] st).2).2).2 with dom := low (used (takeR [91] st).2 (wordsR (takeR [91] st).2).2) }) 5 (.string (bs (low (used (takeR [91] st).2 (wordsR (takeR [91] st).2).2)))) rfl rfl hr.place hr.rest
    exact ⟨⟨hr.cells.frozen 5, hr.cells.frozen 6, ⟨_, hr.cells.cell 5⟩, _, hr.cells.cell 6⟩, rfl, ⟨p, v, hr2.put 6 _ rfl rfl hr2.place hr2.rest⟩, ((h2.of_low h3 (Nat.le_of_lt h1.lt)).set_ hr.cells 5 _).set_ hr2.cells 6 _⟩
  generalize ReadOut w r s bracketR st = Q at *
  have hmf : ∀ (fn : Fn) (first cap : Array Value) (w : World), (Instr.makeFunc fn first cap).run Tryz.prog w = .ok (.func fn first cap) w := fun _ _ _ _ => rfl
  clear h
  cases hg1 : (takeR [91] st).1 with
  | false =>
    have HG1 := Lib.hid hg1
    have HO := Lib.hid (fun w1 => HNO1.out w1 hg1)
    clear hg1 HNO1 HNO2 HNO3 HYES HP HT3 HIS
    go_enter Tryz.func77, Tryz.ntmps77
    go_wp2_with (go_at_call 62; refine HT1.out.mono ?_; rintro e w1 ⟨rfl, h1, hkp⟩; rw [HG1.out]; have H1 := Lib.hid h1; have HKP1 := Lib.hid hkp; clear h1 hkp HT1)
    exact HO.out w1 H1.out HKP1.out
  | true =>
    have HG1 := Lib.hid hg1
    cases hg2 : (wordsR (takeR [91] st).2).1 with
    | false =>
      have HG2 := Lib.hid hg2
      have HO := Lib.hid (fun w1 => HNO2.out w1 hg1 hg2)
      clear hg1 hg2 HNO1 HNO2 HNO3 HYES HT3 HIS
      go_enter Tryz.func77, Tryz.ntmps77
      go_wp2_with (first | (go_at_call 62; refine HT1.out.mono ?_; rintro e w1 ⟨rfl, h1, hkp⟩; rw [HG1.out]; have H1 := Lib.hid h1; have HKP1 := Lib.hid hkp; clear h1 hkp HT1) | (go_at_call 68; refine (HP.out w1 H1.out).mono ?_; rintro e w2 ⟨rfl, h1, hkp⟩; rw [HG2.out]; have H2 := Lib.hid h1; have HKP2 := Lib.hid hkp; clear h1 hkp))
      exact HO.out w2 H2.out (HKP1.out.trans HKP2.out)
    | true =>
      have HG2 := Lib.hid hg2
      cases hg3 : (takeR [93] (wordsR (takeR [91] st).2).2).1 with
      | false =>
        have HG3 := Lib.hid hg3
        have HO := Lib.hid (fun w1 => HNO3.out w1 hg1 hg2 hg3)
        clear hg1 hg2 hg3 HNO1 HNO2 HNO3 HYES HIS
        go_enter Tryz.func77, Tryz.ntmps77
        go_wp2_with (first | (go_at_call 62; refine HT1.out.mono ?_; rintro e w1 ⟨rfl, h1, hkp⟩; rw [HG1.out]; have H1 := Lib.hid h1; have HKP1 := Lib.hid hkp; clear h1 hkp HT1) | (go_at_call 68; refine (HP.out w1 H1.out).mono ?_; rintro e w2 ⟨rfl, h1, hkp⟩; rw [HG2.out]; have H2 := Lib.hid h1; have HKP2 := Lib.hid hkp; clear h1 hkp) | (go_at_call 62; refine (HT3.out w2 H2.out).mono ?_; rintro e w3 ⟨rfl, h1, hkp⟩; rw [HG3.out]; have H3 := Lib.hid h1; have HKP3 := Lib.hid hkp; clear h1 hkp))
        exact HO.out w3 H3.out ((HKP1.out.trans HKP2.out).trans HKP3.out)
      | true =>
        have HG3 := Lib.hid hg3
        have HO := Lib.hid (fun w1 w2 => HYES.out w1 w2 hg1 hg2 hg3)
        clear hg1 hg2 hg3 HNO1 HNO2 HNO3 HYES
        go_enter Tryz.func77, Tryz.ntmps77
        go_wp2_with (first | (go_at_call 62; refine HT1.out.mono ?_; rintro e w1 ⟨rfl, h1, hkp⟩; rw [HG1.out]; have H1 := Lib.hid h1; have HKP1 := Lib.hid hkp; clear h1 hkp HT1) | (go_at_call 68; refine (HP.out w1 H1.out).mono ?_; rintro e w2 ⟨rfl, h1, hkp⟩; rw [HG2.out]; have H2 := Lib.hid h1; have HKP2 := Lib.hid hkp; clear h1 hkp) | (go_at_call 62; refine (HT3.out w2 H2.out).mono ?_; rintro e w3 ⟨rfl, h1, hkp⟩; rw [HG3.out]; have H3 := Lib.hid h1; have HKP3 := Lib.hid hkp; clear h1 hkp) | (go_at_call 79; refine (HIS.out _).mono ?_; rintro e w4 ⟨rfl, hb⟩; obtain ⟨⟨f5, f6, ⟨u, c5⟩, u', c6⟩, hq⟩ := HO.out w3 w4 H3.out ((HKP1.out.trans HKP2.out).trans HKP3.out) hb; have HQ := Lib.hid hq; clear hb hq))
        exact HQ.out
end Go.Proofs.YtjgadocojdieeaaGreatDoor
