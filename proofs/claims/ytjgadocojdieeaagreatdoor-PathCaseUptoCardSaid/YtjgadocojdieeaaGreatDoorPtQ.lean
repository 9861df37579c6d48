/-
  A reader's methods null, alone, route. Conditions: the reader lies in memory; its text is of at most 2^40 bytes; there are fewer domains than bytes.
-/
import Derived.Test.YtjgadocojdieeaaGreatDoorPtO
namespace Go.Proofs.YtjgadocojdieeaaGreatDoor
open Go.RowKit Go.Shelf

set_option maxRecDepth 100000 in
set_option maxHeartbeats 1000000 in
theorem null_any (m : Nat) : Reads anyI m 29 nullR := by
  intro s r w st hs _ h
  have HT1 := Lib.hid (take_any h [60, 62] (by decide))
  have HOUT : Hid (∀ w1, RdAt w1 r s (takeR [60, 62] st).2 → Kp r w w1 → (w1.frozen? ⟨r, 2, none⟩ = false ∧ ∃ u, w1.cell? ⟨r, 2, none⟩ = some u) ∧ ReadOut w r s nullR st (.returned (.bool (takeR [60, 62] st).1)) (w1.setCell ⟨r, 2, none⟩ (.bool (takeR [60, 62] st).1))) := fun w1 h1 h2 => by
    obtain ⟨p, v, hr⟩ := h1
    exact ⟨⟨hr.cells.frozen 2, _, hr.cells.cell 2⟩, rfl, ⟨p, v, hr.put 2 _ rfl rfl hr.place hr.rest⟩, h2.set_ hr.cells 2 _⟩
  generalize ReadOut w r s nullR st = Q at *
  generalize hb : (takeR [60, 62] st).1 = b at *
  have HB := Lib.hid hb
  clear h hb
  go_enter Tryz.func29, Tryz.ntmps29
  go_wp2_with (go_at_call 62; refine HT1.out.mono ?_; rintro e w1 ⟨rfl, h1, hkp⟩; rw [HB.out]; obtain ⟨⟨f2, u, c2⟩, hq⟩ := HOUT.out w1 h1 hkp; have HQ := Lib.hid hq; clear h1 hkp HT1 hq)
  exact HQ.out
set_option maxRecDepth 100000 in
set_option maxHeartbeats 1000000 in
theorem alone_any (m : Nat) : Reads anyI m 30 aloneR := by
  intro s r w st hs _ h
  have HT1 := Lib.hid (take_any h (60 :: postP ++ [62]) (by decide))
  have HNO : Hid (∀ w1, (takeR (60 :: postP ++ [62]) st).1 = false → RdAt w1 r s (takeR (60 :: postP ++ [62]) st).2 → Kp r w w1 → ReadOut w r s aloneR st (.returned (.bool false)) w1) := fun w1 hg h1 h2 => by
    unfold ReadOut aloneR
    rw [if_neg (by rw [hg]; decide)]
    exact ⟨rfl, h1, h2⟩
  have HYES : Hid (∀ w1, (takeR (60 :: postP ++ [62]) st).1 = true → RdAt w1 r s (takeR (60 :: postP ++ [62]) st).2 → Kp r w w1 → (w1.frozen? ⟨r, 4, none⟩ = false ∧ ∃ u, w1.cell? ⟨r, 4, none⟩ = some u) ∧ ReadOut w r s aloneR st (.returned (.bool true)) (w1.setCell ⟨r, 4, none⟩ (.string (bs postP)))) := fun w1 hg h1 h2 => by
    unfold ReadOut aloneR
    rw [if_pos hg]
    obtain ⟨p, v, hr⟩ := h1
    exact ⟨⟨hr.cells.frozen 4, _, hr.cells.cell 4⟩, rfl, ⟨p, v, hr.put 4 _ rfl rfl hr.place hr.rest⟩, h2.set_ hr.cells 4 _⟩
  generalize ReadOut w r s aloneR st = Q at *
  clear h
  cases hg : (takeR (60 :: postP ++ [62]) st).1 with
  | false =>
    have HG1 := Lib.hid hg
    have HO := Lib.hid (fun w1 => HNO.out w1 hg)
    clear hg HNO HYES
    go_enter Tryz.func30, Tryz.ntmps30
    go_wp2_with (go_at_call 62; refine HT1.out.mono ?_; rintro e w1 ⟨rfl, h1, hkp⟩; rw [HG1.out]; have H1 := Lib.hid h1; have HKP1 := Lib.hid hkp; clear h1 hkp HT1)
    exact HO.out w1 H1.out HKP1.out
  | true =>
    have HG1 := Lib.hid hg
    have HO := Lib.hid (fun w1 => HYES.out w1 hg)
    clear hg HNO HYES
    go_enter Tryz.func30, Tryz.ntmps30
    go_wp2_with (go_at_call 62; refine HT1.out.mono ?_; rintro e w1 ⟨rfl, h1, hkp⟩; rw [HG1.out]; obtain ⟨⟨f4, u, c4⟩, hq⟩ := HO.out w1 h1 hkp; have HQ := Lib.hid hq; clear h1 hkp HT1 hq)
    exact HQ.out
theorem hopI1 (s : List UInt8) (st : Rs) (h : hopI s st) (_ : (takeR [44] st).1 = true) : hopI s (takeR [44] st).2 := by
  have h1 := (keep_take [44] st).route
  have h2 := (suf_take [44] st).length_le
  unfold hopI at *
  rw [h1]
  omega
theorem limit_val (n : Nat) (st : Rs) : limitR (decide ((20 : Int) < (n : Int))) st = limitR (decide (20 < n)) st := by
  congr 1
  by_cases h : 20 < n
  · rw [decide_eq_true h, decide_eq_true (by omega)]
  · rw [decide_eq_false h, decide_eq_false (by omega)]
set_option maxRecDepth 100000 in
set_option maxHeartbeats 1000000 in
theorem route_any (m : Nat) (hm : m ≤ 1099511627776) : Reads hopI m 63 routeR := by
  intro s r w st hs hI h
  have HE1 := Lib.hid (each_any (sep := [44]) (hop_any m hm) ent_m_hop suf_hop (by decide) (by decide) hopI1 hopI2 h hs (by omega) hI)
  have HL := Lib.hid (fun (W : World) (hW : RdAt W r s (eachR hopR [44] st).2) => limit_any hW (((eachR hopR [44] st).1 : Nat) : Int) 20)
  have HT := Lib.hid (fun (W : World) (hW : RdAt W r s (limitR (decide (20 < (eachR hopR [44] st).1)) (eachR hopR [44] st).2)) => take_any hW [58] (by decide))
  have HNO : Hid (∀ w1, (eachR hopR [44] st).1 = 0 → RdAt w1 r s (limitR (decide (20 < (eachR hopR [44] st).1)) (eachR hopR [44] st).2) → Kp r w w1 → ReadOut w r s routeR st (.returned (.bool true)) w1) := fun w1 hg h1 h2 => by
    unfold ReadOut routeR
    rw [if_pos hg]
    rw [hg] at h1
    exact ⟨rfl, h1, h2⟩
  have HYES : Hid (∀ w1, (eachR hopR [44] st).1 ≠ 0 → RdAt w1 r s (takeR [58] (limitR (decide (20 < (eachR hopR [44] st).1)) (eachR hopR [44] st).2)).2 → Kp r w w1 → ReadOut w r s routeR st (.returned (.bool (takeR [58] (limitR (decide (20 < (eachR hopR [44] st).1)) (eachR hopR [44] st).2)).1)) w1) := fun w1 hg h1 h2 => by
    unfold ReadOut routeR
    rw [if_neg hg]
    exact ⟨rfl, h1, h2⟩
  have HLV := Lib.hid (limit_val (eachR hopR [44] st).1 (eachR hopR [44] st).2)
  generalize ReadOut w r s routeR st = Q at *
  have hmf : ∀ (fn : Fn) (first cap : Array Value) (w : World), (Instr.makeFunc fn first cap).run Tryz.prog w = .ok (.func fn first cap) w := fun _ _ _ _ => rfl
  clear h hI
  by_cases hg : (eachR hopR [44] st).1 = 0
  · have HO := Lib.hid (fun w1 => HNO.out w1 hg)
    have hz : (((eachR hopR [44] st).1 : Nat) : Int) = 0 := by omega
    have hzb : ((((eachR hopR [44] st).1 : Nat) : Int) == 0) = true := by rw [hz]; rfl
    clear HNO HYES HT hg hz
    go_enter Tryz.func63, Tryz.ntmps63
    go_wp2_with (first | (go_at_call 72; refine HE1.out.mono ?_; rintro e w1 ⟨rfl, h1, hkp⟩; have H1 := Lib.hid h1; have HKP1 := Lib.hid hkp; clear h1 hkp) | (go_at_call 70; refine (HL.out _ H1.out).mono ?_; rintro e w2 ⟨rfl, h1, hkp⟩; rw [HLV.out] at h1; have H2 := Lib.hid h1; have HKP2 := Lib.hid hkp; clear h1 hkp))
    exact HO.out w2 H2.out (HKP1.out.trans HKP2.out)
  · have HO := Lib.hid (fun w1 => HYES.out w1 hg)
    have hzb : ((((eachR hopR [44] st).1 : Nat) : Int) == 0) = false := by simp; omega
    clear HNO HYES hg
    go_enter Tryz.func63, Tryz.ntmps63
    go_wp2_with (first | (go_at_call 72; refine HE1.out.mono ?_; rintro e w1 ⟨rfl, h1, hkp⟩; have H1 := Lib.hid h1; have HKP1 := Lib.hid hkp; clear h1 hkp) | (go_at_call 70; refine (HL.out _ H1.out).mono ?_; rintro e w2 ⟨rfl, h1, hkp⟩; rw [HLV.out] at h1; have H2 := Lib.hid h1; have HKP2 := Lib.hid hkp; clear h1 hkp) | (go_at_call 62; refine (HT.out _ H2.out).mono ?_; rintro e w3 ⟨rfl, h1, hkp⟩; have H3 := Lib.hid h1; have HKP3 := Lib.hid hkp; clear h1 hkp))
    exact HO.out w3 H3.out ((HKP1.out.trans HKP2.out).trans HKP3.out)
end Go.Proofs.YtjgadocojdieeaaGreatDoor
