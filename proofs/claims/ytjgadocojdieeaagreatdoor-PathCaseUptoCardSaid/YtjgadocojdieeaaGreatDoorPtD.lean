/-
  A reader's methods that take a method: piece, each. Conditions: the reader lies in memory; the method reads as is said of it.
-/
import Derived.Test.YtjgadocojdieeaaGreatDoorPtC
namespace Go.Proofs.YtjgadocojdieeaaGreatDoor
open Go.RowKit Go.Shelf

/-- a method reads a part, of texts of at most m bytes, where I holds -/
def Reads (I : List UInt8 → Rs → Prop) (m k : Nat) (g : Rd) : Prop := ∀ (s : List UInt8) (r : Nat) (w : World) (st : Rs), s.length ≤ m → I s st → RdAt w r s st → Calls Tryz.prog k #[.pointer (some ⟨r, 0, none⟩)] w (ReadOut w r s g st)
def meth (k r : Nat) : Value := .func (.func k) #[.pointer (some ⟨r, 0, none⟩)] #[]
theorem RdIn.count {w : World} {r : Nat} {s : List UInt8} {p : Nat} {v : Value} {st : Rs} (h : RdIn w r s p v st) : p + st.rest.length = s.length := by
  have h1 := h.place
  rw [← h.rest, List.length_drop]
  omega
def PieceOut (w : World) (r : Nat) (s : List UInt8) (g : Rd) (st : Rs) (e : Ending) (w' : World) : Prop := e = .returned (.tuple #[.string (bs (used st (g st).2)), .bool (g st).1]) ∧ RdAt w' r s (g st).2 ∧ Kp r w w'
set_option maxRecDepth 100000 in
set_option maxHeartbeats 2000000 in
theorem piece_any {I : List UInt8 → Rs → Prop} {m k : Nat} {g : Rd} (hk : Reads I m k g) (ek : Ent k) (hsuf : Suf g) {w : World} {r : Nat} {s : List UInt8} {st : Rs} (h : RdAt w r s st) (hm : s.length ≤ m) (hI : I s st) : Calls Tryz.prog 68 #[.pointer (some ⟨r, 0, none⟩), meth k r] w (PieceOut w r s g st) := by
  have HC := Lib.hid (hk s r w st hm hI h)
  have ek' : ∀ args w, (callFunc k args).run Tryz.prog w = .ok (.enter k args) w := ek
  obtain ⟨p, v, h⟩ := h
  have HOUT : Hid (∀ w' b p1 v1 q, RdIn w' r s p1 v1 (g st).2 → Kp r w w' → b = (s.drop p).take (p1 - p) → PieceOut w r s g st (.returned (.tuple #[.string (bs b), .bool (g st).1])) (w'.drewN q)) := fun w' b p1 v1 q hr hkp hb => by
    have h1 := h.count
    have h2 := hr.count
    have h3 := (hsuf st).length_le
    subst hb
    refine ⟨?_, ⟨p1, v1, hr.drewN q⟩, hkp.drewN q⟩
    unfold used
    rw [← h.rest, show (s.drop p).length - (g st).2.rest.length = p1 - p from by rw [h.rest]; omega]
  have HLE : Hid (∀ w' p1 v1, RdIn w' r s p1 v1 (g st).2 → p ≤ p1 ∧ p1 ≤ s.length ∧ s.length ≤ 9223372036854775807) := fun w' p1 v1 hr => by
    have h1 := h.count
    have h2 := hr.count
    have h3 := (hsuf st).length_le
    exact ⟨by omega, hr.place, hr.len⟩
  have hsz : (bs s).size = s.length := rfl
  have c1 := h.cells.cell 1
  simp only [rdCells] at c1
  simp at c1
  have HG : Hid ((g st).1 = (g st).1) := rfl
  generalize PieceOut w r s g st = Q at *
  clear h hm hI hk ek hsuf
  unfold meth
  go_enter Tryz.func68, Tryz.ntmps68
  go_upto_region 3 with (go_at_fn k; refine HC.out.mono ?_; rintro e w1 ⟨rfl, ⟨p1, v1, h1⟩, hkp⟩; have H1 := Lib.hid h1; have HKP := Lib.hid hkp; clear h1 hkp)
  have c0 := H1.out.cells.cell 0
  have c3 := H1.out.cells.cell 1
  simp only [rdCells] at c0 c3
  simp at c0 c3
  have hcut : ∀ W, (Instr.slice 9 (.string (bs s)) (some (.int .i64 (p : Int))) (some (.int .i64 (p1 : Int))) none).run Tryz.prog W = .ok (.string (bs ((s.drop p).take (p1 - p)))) W := fun W => str_cut s p p1 (HLE.out _ _ _ H1.out).1 (HLE.out _ _ _ H1.out).2.1 W
  clear HC HG c1
  go_quiet (fail)
  go_wp2
  exact HOUT.out w1 _ p1 v1 nq H1.out HKP.out rfl

def eachG (part : Rd) (sep : List UInt8) (many : Nat) (st : Rs) : Nat × Rs := eachF part sep (st.rest.length + 2) many st
theorem eachG_step {part : Rd} (hp : Suf part) (sep : List UInt8) (hs : sep ≠ []) (many : Nat) (st : Rs) : eachG part sep many st = if (sepR sep many st).1 = false then (many, { (sepR sep many st).2 with rest := st.rest })
    else if (part (sepR sep many st).2).1 = false then (many, { (part (sepR sep many st).2).2 with rest := st.rest })
    else eachG part sep (many + 1) (part (sepR sep many st).2).2 := by
  unfold eachG
  rw [eachF]
  have h1 := (hp (sepR sep many st).2).length_le
  have h2 := (suf_sep sep many st).length_le
  rw [eachF_fuel hp sep hs (st.rest.length + 1) ((part (sepR sep many st).2).2.rest.length + 2) (many + 1) _ (by simp; omega) (by simp)]
def EachOut (w : World) (r : Nat) (s : List UInt8) (g : Rd) (sep : List UInt8) (st : Rs) (e : Ending) (w' : World) : Prop := e = .returned (.int .i64 (((eachR g sep st).1 : Nat) : Int)) ∧ RdAt w' r s (eachR g sep st).2 ∧ Kp r w w'
set_option maxRecDepth 100000 in
set_option maxHeartbeats 2000000 in
theorem each_any {I : List UInt8 → Rs → Prop} {m k : Nat} {g : Rd} (hk : Reads I m k g) (ek : Ent k) (hsuf : Suf g) {sep : List UInt8} (hsep : sep ≠ []) (hsl : sep.length ≤ 1000)
    (hI1 : ∀ s st, I s st → (takeR sep st).1 = true → I s (takeR sep st).2) (hI2 : ∀ s st, I s st → (g st).1 = true → I s (g st).2)
    {w : World} {r : Nat} {s : List UInt8} {st : Rs} (h : RdAt w r s st) (hm : s.length ≤ m) (hm2 : m ≤ 4611686018427387904) (hI : I s st) : Calls Tryz.prog 72 #[.pointer (some ⟨r, 0, none⟩), meth k r, .string (bs sep)] w (EachOut w r s g sep st) := by
  have ek' : ∀ args w, (callFunc k args).run Tryz.prog w = .ok (.enter k args) w := ek
  have HEND : Hid (∀ many st1 st2 wr w2 p1 v1, eachG g sep many st1 = eachR g sep st → eachG g sep many st1 = (many, { st2 with rest := st1.rest }) → RdIn wr r s p1 v1 st1 → Kp r w wr → RdAt w2 r s st2 → Kp r wr w2 →
      EachOut w r s g sep st (.returned (.int .i64 ((many : Nat) : Int))) (w2.setCell ⟨r, 1, none⟩ (.int .i64 (p1 : Int)))) := fun many st1 st2 wr w2 p1 v1 e1 e2 h1 k1 h2 k2 => by
    obtain ⟨p2, v2, h2⟩ := h2
    unfold EachOut
    rw [← e1, e2]
    exact ⟨rfl, ⟨p1, v2, h2.put 1 _ rfl rfl h1.place h1.rest⟩, (k1.trans k2).set_ h2.cells 1 _⟩
  have HST : Hid (eachG g sep 0 st = eachR g sep st) := rfl
  have HSTEP := Lib.hid (eachG_step (part := g) hsuf sep hsep)
  have HK := Lib.hid hk
  have HTK := Lib.hid (fun (w1 : World) (st1 : Rs) (h1 : RdAt w1 r s st1) => take_any h1 sep hsl)
  have HI1 := Lib.hid hI1
  have HI2 := Lib.hid hI2
  have HSL := Lib.hid (fun (st1 : Rs) (ht : (takeR sep st1).1 = true) => (show (takeR sep st1).2.rest.length + 1 ≤ st1.rest.length from by
    obtain ⟨_, e2, e3⟩ := takeR_yes sep st1 ht
    have := List.length_pos_iff.2 hsep
    rw [e2]
    simp
    omega))
  have HSG := Lib.hid (fun st1 => (hsuf st1).length_le)
  have HM := Lib.hid hm
  have HAT := Lib.hid h
  have HI0 := Lib.hid hI
  have hbig : s.length ≤ 4611686018427387904 := by omega
  generalize EachOut w r s g sep st = Q at *
  clear hk ek hsuf hsep hsl hI1 hI2 hm hm2 hI h
  unfold meth
  go_enter Tryz.func72, Tryz.ntmps72
  go_wp2
  go_loopw [7] (fun i wr => ∃ (many : Nat) (st1 : Rs), i = .int .i64 many ∧ (many ≠ 0 → many + st1.rest.length ≤ s.length + 1) ∧ Hid (RdAt wr r s st1) ∧ Hid (Kp r w wr) ∧ Hid (I s st1) ∧ Hid (eachG g sep many st1 = eachR g sep st)) (fun i wr => (s.length - placeW wr r) + (if (intOf i).toNat = 0 then 1 else 0))
  case atStart => exact ⟨0, st, rfl, fun h => absurd rfl h, HAT.out, Kp.refl r w, HI0.out, HST.out⟩
  case round =>
    obtain ⟨many, st1, rfl, hmn, HR, HKP, HI, HE⟩ := hrel
    obtain ⟨p1, v1, hr⟩ := HR.out
    have HR1 := Lib.hid hr
    have HCN := Lib.hid hr.count
    have HPL := Lib.hid hr.placeW
    have c1 := hr.cells.cell 1
    simp only [rdCells] at c1
    simp at c1
    clear hr
    by_cases h0 : many = 0
    · subst h0
      have hS : sepR sep 0 st1 = (true, st1) := rfl
      have hstep := HSTEP.out 0 st1
      rw [hS] at hstep
      simp only [Bool.true_eq_false, if_false] at hstep
      cases hg : (g st1).1 with
      | false =>
        rw [hg] at hstep
        simp only [if_true] at hstep
        have HC := Lib.hid (HK.out s r wr st1 HM.out HI.out HR.out)
        have HE2 := Lib.hid hstep
        have HG := Lib.hid hg
        clear hstep hS hmn hg
        go_upto_region 5 with (go_at_fn k; refine HC.out.mono ?_; rintro e w1 ⟨rfl, h1, hkp⟩; rw [HG.out]; have H1 := Lib.hid h1; have HKQ := Lib.hid hkp; clear h1 hkp)
        have f1 := H1.out.choose_spec.choose_spec.cells.frozen 1
        have c3 := H1.out.choose_spec.choose_spec.cells.cell 1
        simp only [rdCells] at c3
        simp at c3
        clear c1
        go_wp2
        exact HEND.out 0 st1 _ wr w1 p1 v1 HE.out HE2.out HR1.out HKP.out H1.out HKQ.out
      | true =>
        rw [hg] at hstep
        simp only [Bool.true_eq_false, if_false, Nat.zero_add] at hstep
        have HC := Lib.hid (HK.out s r wr st1 HM.out HI.out HR.out)
        have HE2 := Lib.hid (hstep.symm.trans HE.out)
        have HIN := Lib.hid (HI2.out s st1 HI.out hg)
        have HG := Lib.hid hg
        clear hstep hS hmn hg
        go_wp2_with (go_at_fn k; refine HC.out.mono ?_; rintro e w1 ⟨rfl, h1, hkp⟩; rw [HG.out]; have H1 := Lib.hid h1; have HKQ := Lib.hid hkp; clear h1 hkp)
        have h2 := HCN.out
        have h3 := HSG.out st1
        have h5 := HPL.out
        obtain ⟨p2, v2, hr2⟩ := H1.out
        have h4 := hr2.count
        have h6 := hr2.placeW
        clear hr2
        go_roundw
        case rel => exact ⟨1, (g st1).2, by go_num, fun _ => by omega, H1.out, HKP.out.trans HKQ.out, HIN.out, HE2.out⟩
        case measure => simp [intOf, h5, h6]; omega
    · have hstep := HSTEP.out many st1
      have hS : sepR sep many st1 = takeR sep st1 := by unfold sepR; rw [if_neg h0]
      rw [hS] at hstep
      have hm0 : 0 < many := by omega
      have hmb : (many : Int) + 1 ≤ 9223372036854775807 := by have := hmn h0; omega
      have HMN := Lib.hid (hmn h0)
      have HT := Lib.hid (HTK.out wr st1 HR.out)
      cases ht : (takeR sep st1).1 with
      | false =>
        rw [ht] at hstep
        simp only [if_true] at hstep
        have HE2 := Lib.hid hstep
        have HG := Lib.hid ht
        clear hstep hS hmn ht
        go_upto_region 5 with (go_at_call 62; refine HT.out.mono ?_; rintro e w1 ⟨rfl, h1, hkp⟩; rw [HG.out]; have H1 := Lib.hid h1; have HKQ := Lib.hid hkp; clear h1 hkp)
        have f1 := H1.out.choose_spec.choose_spec.cells.frozen 1
        have c3 := H1.out.choose_spec.choose_spec.cells.cell 1
        simp only [rdCells] at c3
        simp at c3
        clear c1
        go_wp2
        exact HEND.out many st1 _ wr w1 p1 v1 HE.out HE2.out HR1.out HKP.out H1.out HKQ.out
      | true =>
        rw [ht] at hstep
        simp only [Bool.true_eq_false, if_false] at hstep
        have HIT := Lib.hid (HI1.out s st1 HI.out ht)
        have HLT := Lib.hid (HSL.out st1 ht)
        have HC := Lib.hid (fun w1 h1 => HK.out s r w1 (takeR sep st1).2 HM.out HIT.out h1)
        have HG := Lib.hid ht
        cases hg : (g (takeR sep st1).2).1 with
        | false =>
          rw [hg] at hstep
          simp only [if_true] at hstep
          have HE2 := Lib.hid hstep
          have HG2 := Lib.hid hg
          clear hstep hS hmn ht hg
          go_upto_region 5 with (first | (go_at_call 62; refine HT.out.mono ?_; rintro e w1 ⟨rfl, h1, hkp⟩; rw [HG.out]; have H1 := Lib.hid h1; have HKQ := Lib.hid hkp; clear h1 hkp) | (go_at_fn k; refine (HC.out _ H1.out).mono ?_; rintro e w2 ⟨rfl, h1, hkp⟩; rw [HG2.out]; have H2 := Lib.hid h1; have HKR := Lib.hid hkp; clear h1 hkp))
          have f1 := H2.out.choose_spec.choose_spec.cells.frozen 1
          have c3 := H2.out.choose_spec.choose_spec.cells.cell 1
          simp only [rdCells] at c3
          simp at c3
          clear c1
          go_wp2
          exact HEND.out many st1 _ wr w2 p1 v1 HE.out HE2.out HR1.out HKP.out H2.out (HKQ.out.trans HKR.out)
        | true =>
          rw [hg] at hstep
          simp only [Bool.true_eq_false, if_false] at hstep
          have HE2 := Lib.hid (hstep.symm.trans HE.out)
          have HIN := Lib.hid (HI2.out s _ HIT.out hg)
          have HG2 := Lib.hid hg
          clear hstep hS hmn ht hg
          go_wp2_with (first | (go_at_call 62; refine HT.out.mono ?_; rintro e w1 ⟨rfl, h1, hkp⟩; rw [HG.out]; have H1 := Lib.hid h1; have HKQ := Lib.hid hkp; clear h1 hkp) | (go_at_fn k; refine (HC.out _ H1.out).mono ?_; rintro e w2 ⟨rfl, h1, hkp⟩; rw [HG2.out]; have H2 := Lib.hid h1; have HKR := Lib.hid hkp; clear h1 hkp))
          have h2 := HCN.out
          have h3 := HSG.out (takeR sep st1).2
          have h5 := HPL.out
          have h7 := HLT.out
          have h8 := HMN.out
          obtain ⟨p2, v2, hr2⟩ := H2.out
          have h4 := hr2.count
          have h6 := hr2.placeW
          clear hr2
          go_roundw
          case rel => exact ⟨many + 1, (g (takeR sep st1).2).2, by go_num, fun _ => by omega, H2.out, (HKP.out.trans HKQ.out).trans HKR.out, HIN.out, HE2.out⟩
          case measure => simp [intOf, h5, h6]; omega
end Go.Proofs.YtjgadocojdieeaaGreatDoor
