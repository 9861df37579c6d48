/-
  path's reader: full, verdict; path.Domain, path.Literal. Conditions: the text is of at most 2^40 bytes; the library's variable holds some value.
-/
import Derived.Test.YtjgadocojdieeaaGreatDoorPtR
namespace Go.Proofs.YtjgadocojdieeaaGreatDoor
open Go.RowKit Go.Shelf

theorem mailbox_hop (s : List UInt8) (st : Rs) (_ : hopI s st) : anyI s st := trivial
set_option maxRecDepth 100000 in
set_option maxHeartbeats 1000000 in
theorem full_any (m : Nat) (hm : m ≤ 1099511627776) : Reads hopI m 31 fullR := by
  intro s r w st hs hI h
  have HT1 := Lib.hid (take_any h [60] (by decide))
  have hI2 : hopI s (takeR [60] st).2 := by
    have h1 := (keep_take [60] st).route
    have h2 := (suf_take [60] st).length_le
    unfold hopI at *
    rw [h1]
    omega
  have HR := Lib.hid (fun (W : World) (hW : RdAt W r s (takeR [60] st).2) => route_any m hm s r W _ hs hI2 hW)
  have HB := Lib.hid (fun (W : World) (hW : RdAt W r s (routeR (takeR [60] st).2).2) => mailbox_any m hm s r W _ hs trivial hW)
  have HE := Lib.hid (fun (W : World) (hW : RdAt W r s (mailboxR (routeR (takeR [60] st).2).2).2) => take_any hW [62] (by decide))
  have HNO1 : Hid (∀ w1, (takeR [60] st).1 = false → RdAt w1 r s (takeR [60] st).2 → Kp r w w1 → ReadOut w r s fullR st (.returned (.bool false)) w1) := fun w1 hg h1 h2 => by
    unfold ReadOut fullR
    rw [and_no _ _ _ hg]
    exact ⟨rfl, h1, h2⟩
  have HNO2 : Hid (∀ w1, (takeR [60] st).1 = true → (routeR (takeR [60] st).2).1 = false → RdAt w1 r s (routeR (takeR [60] st).2).2 → Kp r w w1 → ReadOut w r s fullR st (.returned (.bool false)) w1) := fun w1 hg hg2 h1 h2 => by
    unfold ReadOut fullR
    rw [and_yes _ _ _ hg, and_no _ _ _ hg2]
    exact ⟨rfl, h1, h2⟩
  have HNO3 : Hid (∀ w1, (takeR [60] st).1 = true → (routeR (takeR [60] st).2).1 = true → (mailboxR (routeR (takeR [60] st).2).2).1 = false → RdAt w1 r s (mailboxR (routeR (takeR [60] st).2).2).2 → Kp r w w1 → ReadOut w r s fullR st (.returned (.bool false)) w1) := fun w1 hg hg2 hg3 h1 h2 => by
    unfold ReadOut fullR
    rw [and_yes _ _ _ hg, and_yes _ _ _ hg2, and_no _ _ _ hg3]
    exact ⟨rfl, h1, h2⟩
  have HYES : Hid (∀ w1, (takeR [60] st).1 = true → (routeR (takeR [60] st).2).1 = true → (mailboxR (routeR (takeR [60] st).2).2).1 = true → RdAt w1 r s (takeR [62] (mailboxR (routeR (takeR [60] st).2).2).2).2 → Kp r w w1 → ReadOut w r s fullR st (.returned (.bool (takeR [62] (mailboxR (routeR (takeR [60] st).2).2).2).1)) w1) := fun w1 hg hg2 hg3 h1 h2 => by
    unfold ReadOut fullR
    rw [and_yes _ _ _ hg, and_yes _ _ _ hg2, and_yes _ _ _ hg3]
    exact ⟨rfl, h1, h2⟩
  generalize ReadOut w r s fullR st = Q at *
  clear h hI hI2
  cases hg1 : (takeR [60] st).1 with
  | false =>
    have HG1 := Lib.hid hg1
    have HO := Lib.hid (fun w1 => HNO1.out w1 hg1)
    clear hg1 HNO1 HNO2 HNO3 HYES HR HB HE
    go_enter Tryz.func31, Tryz.ntmps31
    go_wp2_with (go_at_call 62; refine (HT1.out).mono ?_; rintro e w1 ⟨rfl, h1, hkp⟩; rw [HG1.out]; have H1 := Lib.hid h1; have HKP1 := Lib.hid hkp; clear h1 hkp HT1)
    exact HO.out w1 H1.out HKP1.out
  | true =>
    have HG1 := Lib.hid hg1
    cases hg2 : (routeR (takeR [60] st).2).1 with
    | false =>
      have HG2 := Lib.hid hg2
      have HO := Lib.hid (fun w1 => HNO2.out w1 hg1 hg2)
      clear hg1 hg2 HNO1 HNO2 HNO3 HYES HB HE
      go_enter Tryz.func31, Tryz.ntmps31
      go_wp2_with (first | (go_at_call 62; refine (HT1.out).mono ?_; rintro e w1 ⟨rfl, h1, hkp⟩; rw [HG1.out]; have H1 := Lib.hid h1; have HKP1 := Lib.hid hkp; clear h1 hkp HT1) | (go_at_call 63; refine (HR.out w1 H1.out).mono ?_; rintro e w2 ⟨rfl, h1, hkp⟩; rw [HG2.out]; have H2 := Lib.hid h1; have HKP2 := Lib.hid hkp; clear h1 hkp))
      exact HO.out w2 H2.out (HKP1.out.trans HKP2.out)
    | true =>
      have HG2 := Lib.hid hg2
      cases hg3 : (mailboxR (routeR (takeR [60] st).2).2).1 with
      | false =>
        have HG3 := Lib.hid hg3
        have HO := Lib.hid (fun w1 => HNO3.out w1 hg1 hg2 hg3)
        clear hg1 hg2 hg3 HNO1 HNO2 HNO3 HYES HE
        go_enter Tryz.func31, Tryz.ntmps31
        go_wp2_with (first | (go_at_call 62; refine (HT1.out).mono ?_; rintro e w1 ⟨rfl, h1, hkp⟩; rw [HG1.out]; have H1 := Lib.hid h1; have HKP1 := Lib.hid hkp; clear h1 hkp HT1) | (go_at_call 63; refine (HR.out w1 H1.out).mono ?_; rintro e w2 ⟨rfl, h1, hkp⟩; rw [HG2.out]; have H2 := Lib.hid h1; have HKP2 := Lib.hid hkp; clear h1 hkp) | (go_at_call 44; refine (HB.out w2 H2.out).mono ?_; rintro e w3 ⟨rfl, h1, hkp⟩; rw [HG3.out]; have H3 := Lib.hid h1; have HKP3 := Lib.hid hkp; clear h1 hkp))
        exact HO.out w3 H3.out ((HKP1.out.trans HKP2.out).trans HKP3.out)
      | true =>
        have HG3 := Lib.hid hg3
        have HO := Lib.hid (fun w1 => HYES.out w1 hg1 hg2 hg3)
        clear hg1 hg2 hg3 HNO1 HNO2 HNO3 HYES
        go_enter Tryz.func31, Tryz.ntmps31
        go_wp2_with (first | (go_at_call 62; refine (HT1.out).mono ?_; rintro e w1 ⟨rfl, h1, hkp⟩; rw [HG1.out]; have H1 := Lib.hid h1; have HKP1 := Lib.hid hkp; clear h1 hkp HT1) | (go_at_call 63; refine (HR.out w1 H1.out).mono ?_; rintro e w2 ⟨rfl, h1, hkp⟩; rw [HG2.out]; have H2 := Lib.hid h1; have HKP2 := Lib.hid hkp; clear h1 hkp) | (go_at_call 44; refine (HB.out w2 H2.out).mono ?_; rintro e w3 ⟨rfl, h1, hkp⟩; rw [HG3.out]; have H3 := Lib.hid h1; have HKP3 := Lib.hid hkp; clear h1 hkp) | (go_at_call 62; refine (HE.out w3 H3.out).mono ?_; rintro e w4 ⟨rfl, h1, hkp⟩; have H4 := Lib.hid h1; have HKP4 := Lib.hid hkp; clear h1 hkp))
        exact HO.out w4 H4.out (((HKP1.out.trans HKP2.out).trans HKP3.out).trans HKP4.out)
/-- what is said of what was read -/
def verdictP (b lg : Bool) : Int := if b = false then 150 else if lg then 3 else 0
set_option maxRecDepth 100000 in
set_option maxHeartbeats 1000000 in
theorem verdict_any {w : World} {r : Nat} {s : List UInt8} {st : Rs} (h : RdAt w r s st) (b : Bool) : Calls Tryz.prog 27 #[.pointer (some ⟨r, 0, none⟩), .bool b] w fun e w' => e = .returned (.int .i64 (verdictP b st.long)) ∧ w' = w := by
  obtain ⟨p, v, hr⟩ := h
  have c7 := hr.cells.cell 7
  simp only [rdCells] at c7
  simp at c7
  clear hr
  cases b with
  | false =>
    go_enter Tryz.func27, Tryz.ntmps27
    go_wp2
    go_ret
    exact ⟨rfl, rfl⟩
  | true =>
    cases hl : st.long with
    | true =>
      rw [hl] at c7
      go_enter Tryz.func27, Tryz.ntmps27
      go_wp2
      go_ret
      exact ⟨rfl, rfl⟩
    | false =>
      rw [hl] at c7
      go_enter Tryz.func27, Tryz.ntmps27
      go_wp2
      go_ret
      exact ⟨rfl, rfl⟩
/-- a new reader -/
theorem new_reader (w : World) (s : List UInt8) (hs : s.length ≤ 9223372036854775807) (he : ErrAt w) (hg : 4 < w.heap.size) : RdAt (w.alloc (.cells #[.string (bs s), .int .i64 0, .bool false, .slice none 0 0, .string ⟨#[]⟩, .string ⟨#[]⟩, .bool false, .bool false] 49)) w.heap.size s (st0 s) := by
  refine ⟨0, .slice none 0 0, Blk.new _ _ _, World.ownsRow_nil _ _ _ _, Nat.zero_le _, rfl, hs, he.below ((Below.refl _ w).alloc (Nat.le_refl _) _) hg, hg⟩
end Go.Proofs.YtjgadocojdieeaaGreatDoor
