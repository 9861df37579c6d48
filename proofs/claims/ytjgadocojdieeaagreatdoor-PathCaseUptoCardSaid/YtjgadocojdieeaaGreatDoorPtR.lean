/-
  A reader's methods mailbox, full. Conditions: the reader lies in memory; its text is of at most 2^40 bytes; there are fewer domains than bytes.
-/
import Derived.Test.YtjgadocojdieeaaGreatDoorPtQ
namespace Go.Proofs.YtjgadocojdieeaaGreatDoor
open Go.RowKit Go.Shelf

theorem Reads.weak {I J : List UInt8 → Rs → Prop} {m k : Nat} {g : Rd} (h : Reads I m k g) (hJ : ∀ s st, J s st → I s st) : Reads J m k g := fun s r w st h1 h2 h3 => h s r w st h1 (hJ s st h2) h3
/-- two methods, one behind the other: what is left of both -/
theorem and_out {w w1 w2 : World} {r : Nat} {s : List UInt8} {g h : Rd} {st : Rs} (k1 : Kp r w w1) (hg : (g st).1 = true) (k2 : ReadOut w1 r s h (g st).2 (.returned (.bool (h (g st).2).1)) w2) : ReadOut w r s (andR g h) st (.returned (.bool (h (g st).2).1)) w2 := by
  obtain ⟨_, h1, h2⟩ := k2
  unfold ReadOut andR
  rw [if_pos hg]
  exact ⟨rfl, h1, k1.trans h2⟩
theorem and_yes (g h : Rd) (st : Rs) (hg : (g st).1 = true) : andR g h st = h (g st).2 := by unfold andR; rw [if_pos hg]
theorem and_no (g h : Rd) (st : Rs) (hg : (g st).1 = false) : andR g h st = (false, (g st).2) := by unfold andR; rw [if_neg (by simp [hg])]
theorem loc_parts (m : Nat) (hm : m ≤ 1099511627776) : ∀ x ∈ [(75, quotedR), (76, plainR)], Reads anyI m x.1 x.2 ∧ Ent x.1 := by
  intro x hx
  simp only [List.mem_cons, List.mem_nil_iff, or_false] at hx
  rcases hx with rfl | rfl
  · exact ⟨quoted_any m hm, ent_m_quoted⟩
  · exact ⟨plain_any m (by omega), ent_m_plain⟩
theorem dom_parts (m : Nat) (hm : m ≤ 1099511627776) : ∀ x ∈ [(77, bracketR), (78, namedR)], Reads anyI m x.1 x.2 ∧ Ent x.1 := by
  intro x hx
  simp only [List.mem_cons, List.mem_nil_iff, or_false] at hx
  rcases hx with rfl | rfl
  · exact ⟨bracket_any m (by omega), ent_m_bracket⟩
  · exact ⟨named_any m (by omega), ent_m_named⟩
theorem RdAt.alloc {w : World} {r : Nat} {s : List UInt8} {st : Rs} (h : RdAt w r s st) (o : Obj) : RdAt (w.alloc o) r s st := h.later ((Below.refl _ w).alloc (Nat.le_refl _) o)
theorem Kp.alloc {r : Nat} {a b : World} (h : Kp r a b) (o : Obj) (hr : r ≤ b.heap.size) : Kp r a (b.alloc o) := h.of_low ((Below.refl _ b).alloc (Nat.le_refl _) o) hr
set_option maxRecDepth 100000 in
set_option maxHeartbeats 1000000 in
theorem mailbox_any (m : Nat) (hm : m ≤ 1099511627776) : Reads anyI m 44 mailboxR := by
  intro s r w st hs _ h
  obtain ⟨a, ha⟩ : ∃ a, a = eitherR [quotedR, plainR] st := ⟨_, rfl⟩
  have HA := Lib.hid (fun (W : World) (hW : RdAt W r s st) (b : Nat) (hb : Blk W b 27 #[meth 75 r, meth 76 r]) => either_any [(75, quotedR), (76, plainR)] (loc_parts m hm) (fun _ _ _ _ _ _ _ => trivial) 2 rfl (by decide) hW hs trivial hb 2)
  have HT := Lib.hid (fun (W : World) (hW : RdAt W r s a.2) => take_any hW [64] (by decide))
  have HD := Lib.hid (fun (W : World) (hW : RdAt W r s (takeR [64] a.2).2) (b : Nat) (hb : Blk W b 27 #[meth 77 r, meth 78 r]) => either_any [(77, bracketR), (78, namedR)] (dom_parts m hm) (fun _ _ _ _ _ _ _ => trivial) 2 rfl (by decide) hW hs trivial hb 2)
  have HAE : Hid (eitherR (([(75, quotedR), (76, plainR)] : List (Nat × Rd)).map (·.2)) st = a) := ha.symm
  have HNO1 : Hid (∀ w1, a.1 = false → RdAt w1 r s a.2 → Kp r w w1 → ReadOut w r s mailboxR st (.returned (.bool false)) w1) := fun w1 hg h1 h2 => by
    subst ha
    unfold ReadOut mailboxR
    rw [and_no _ _ _ hg]
    exact ⟨rfl, h1, h2⟩
  have HNO2 : Hid (∀ w1, a.1 = true → (takeR [64] a.2).1 = false → RdAt w1 r s (takeR [64] a.2).2 → Kp r w w1 → ReadOut w r s mailboxR st (.returned (.bool false)) w1) := fun w1 hg hg2 h1 h2 => by
    subst ha
    unfold ReadOut mailboxR
    rw [and_yes _ _ _ hg, and_no _ _ _ hg2]
    exact ⟨rfl, h1, h2⟩
  have HYES : Hid (∀ w1, a.1 = true → (takeR [64] a.2).1 = true → RdAt w1 r s (eitherR [bracketR, namedR] (takeR [64] a.2).2).2 → Kp r w w1 → ReadOut w r s mailboxR st (.returned (.bool (eitherR [bracketR, namedR] (takeR [64] a.2).2).1)) w1) := fun w1 hg hg2 h1 h2 => by
    subst ha
    unfold ReadOut mailboxR
    rw [and_yes _ _ _ hg, and_yes _ _ _ hg2]
    exact ⟨rfl, h1, h2⟩
  have HLT := Lib.hid h.lt
  have HH := Lib.hid (h.alloc (.cells #[meth 75 r, meth 76 r] 27))
  have HC1 := Lib.hid (HA.out _ HH.out w.heap.size (Blk.new _ _ _))
  have HK0 := Lib.hid ((Kp.refl r w).alloc (.cells #[meth 75 r, meth 76 r] 27) (Nat.le_of_lt h.lt))
  unfold meth at HC1 HK0
  generalize ReadOut w r s mailboxR st = Q at *
  have hmf : ∀ (fn : Fn) (first cap : Array Value) (w : World), (Instr.makeFunc fn first cap).run Tryz.prog w = .ok (.func fn first cap) w := fun _ _ _ _ => rfl
  clear h ha HA HH
  cases hg1 : a.1 with
  | false =>
    have HG1 := Lib.hid hg1
    have HO := Lib.hid (fun w1 => HNO1.out w1 hg1)
    clear hg1 HNO1 HNO2 HYES HT HD
    go_enter Tryz.func44, Tryz.ntmps44
    go_wp2_with (go_at_call 28; refine HC1.out.mono ?_; rintro e w1 ⟨rfl, h1, hkp⟩; rw [HAE.out] at h1 ⊢; rw [HG1.out]; have H1 := Lib.hid h1; have HKP1 := Lib.hid hkp; clear h1 hkp)
    exact HO.out w1 H1.out (HK0.out.trans HKP1.out)
  | true =>
    have HG1 := Lib.hid hg1
    cases hg2 : (takeR [64] a.2).1 with
    | false =>
      have HG2 := Lib.hid hg2
      have HO := Lib.hid (fun w1 => HNO2.out w1 hg1 hg2)
      clear hg1 hg2 HNO1 HNO2 HYES HD
      go_enter Tryz.func44, Tryz.ntmps44
      go_wp2_with (first | (go_at_call 28; refine HC1.out.mono ?_; rintro e w1 ⟨rfl, h1, hkp⟩; rw [HAE.out] at h1 ⊢; rw [HG1.out]; have H1 := Lib.hid h1; have HKP1 := Lib.hid hkp; clear h1 hkp) | (go_at_call 62; refine (HT.out w1 H1.out).mono ?_; rintro e w2 ⟨rfl, h1, hkp⟩; rw [HG2.out]; have H2 := Lib.hid h1; have HKP2 := Lib.hid hkp; clear h1 hkp))
      exact HO.out w2 H2.out ((HK0.out.trans HKP1.out).trans HKP2.out)
    | true =>
      have HG2 := Lib.hid hg2
      have HO := Lib.hid (fun w1 => HYES.out w1 hg1 hg2)
      clear hg1 hg2 HNO1 HNO2 HYES
      go_enter Tryz.func44, Tryz.ntmps44
      go_wp2_with (first | (go_at_call 28; refine HC1.out.mono ?_; rintro e w1 ⟨rfl, h1, hkp⟩; rw [HAE.out] at h1 ⊢; rw [HG1.out]; have H1 := Lib.hid h1; have HKP1 := Lib.hid hkp; clear h1 hkp) | (go_at_call 62; refine (HT.out w1 H1.out).mono ?_; rintro e w2 ⟨rfl, h1, hkp⟩; rw [HG2.out]; have H2 := Lib.hid h1; have HKP2 := Lib.hid hkp; have HC3 := Lib.hid (HD.out _ (h1.alloc (.cells #[meth 77 r, meth 78 r] 27)) w2.heap.size (Blk.new _ _ _)); have HK3 := Lib.hid ((Kp.refl r w2).alloc (.cells #[meth 77 r, meth 78 r] 27) (Nat.le_of_lt h1.lt)); unfold meth at HC3 HK3; clear h1 hkp HC1) | (go_at_call 28; refine HC3.out.mono ?_; rintro e w3 ⟨rfl, h1, hkp⟩; have H3 := Lib.hid h1; have HKP3 := Lib.hid hkp; clear h1 hkp))
      exact HO.out w3 H3.out ((((HK0.out.trans HKP1.out).trans HKP2.out).trans HK3.out).trans HKP3.out)
end Go.Proofs.YtjgadocojdieeaaGreatDoor
