/-
  A reader's method either. Conditions: the reader lies in memory; the methods read as is said of them.
-/
import Derived.Test.YtjgadocojdieeaaGreatDoorPtL
namespace Go.Proofs.YtjgadocojdieeaaGreatDoor
open Go.RowKit Go.Shelf

theorem either_nil (st : Rs) : eitherR [] st = (false, st) := by rw [eitherR]
theorem either_cons (p : Rd) (ps : List Rd) (st : Rs) : eitherR (p :: ps) st = if (p st).1 = true then p st else eitherR ps { (p st).2 with rest := st.rest } := by rw [eitherR]
/-- methods in a row -/
def methsC (ps : List (Nat × Rd)) (r : Nat) : List Value := ps.map fun x => meth x.1 r
set_option maxRecDepth 100000 in
set_option maxHeartbeats 2000000 in
theorem either_any {I : List UInt8 → Rs → Prop} {m : Nat} (ps : List (Nat × Rd)) (hps : ∀ x ∈ ps, Reads I m x.1 x.2 ∧ Ent x.1) (hps2 : ∀ i x, ps[i]? = some x → i + 1 < ps.length → ∀ s st, I s st → I s { (x.2 st).2 with rest := st.rest }) (n : Nat) (hn : n = ps.length) (hn2 : n ≤ 100) {w : World} {r : Nat} {s : List UInt8} {st : Rs} (h : RdAt w r s st) (hm : s.length ≤ m) (hI : I s st)
    {b : Nat} (hb : Blk w b 27 (methsC ps r).toArray) (c : Nat) : Calls Tryz.prog 28 #[.pointer (some ⟨r, 0, none⟩), .slice (some ⟨b, 0, none⟩) n c] w (ReadOut w r s (eitherR (ps.map (·.2))) st) := by
  obtain ⟨p, v, hr⟩ := h
  have c1 := hr.cells.cell 1
  simp only [rdCells] at c1
  simp at c1
  have HP0 := Lib.hid (And.intro hr.place hr.rest)
  have HR0 := Lib.hid (show RdAt w r s st from ⟨p, v, hr⟩)
  have HB := Lib.hid hb
  have HPS := Lib.hid hps
  have HPS2 := Lib.hid hps2
  have HN := Lib.hid hn
  have HI0 := Lib.hid hI
  have HM := Lib.hid hm
  have HYES : Hid (∀ st1 w1 w' g qs, eitherR (g :: qs) st1 = eitherR (ps.map (·.2)) st → (g st1).1 = true → Kp r w w1 → RdAt w' r s (g st1).2 → Kp r w1 w' → ReadOut w r s (eitherR (ps.map (·.2))) st (.returned (.bool true)) w') := fun st1 w1 w' g qs he hg k1 h1 k2 => by
    unfold ReadOut
    rw [← he, either_cons, if_pos hg, hg]
    exact ⟨rfl, h1, k1.trans k2⟩
  have HNO : Hid (∀ st1 w', eitherR [] st1 = eitherR (ps.map (·.2)) st → RdAt w' r s st1 → Kp r w w' → ReadOut w r s (eitherR (ps.map (·.2))) st (.returned (.bool false)) w') := fun st1 w' he h1 k1 => by
    unfold ReadOut
    rw [← he, either_nil]
    exact ⟨rfl, h1, k1⟩
  have HE0 : Hid (eitherR ((ps.drop 0).map (·.2)) st = eitherR (ps.map (·.2)) st) := rfl
  have HML : Hid (∀ k : Nat, (methsC ps r).toArray[k]? = (ps[k]?).map fun (x : Nat × Rd) => meth x.1 r) := fun k => by simp [methsC]
  generalize ReadOut w r s (eitherR (ps.map (·.2))) st = Q at *
  generalize (methsC ps r).toArray = MC at *
  clear hr hb hps hps2 hn hI hm
  go_enter Tryz.func28, Tryz.ntmps28
  go_wp2
  clear c1
  go_loopw [14] (fun i wr => ∃ (k : Nat) (st1 : Rs), k ≤ n ∧ i = .int .i64 k ∧ Hid (RdAt wr r s st1) ∧ Hid (st1.rest = st.rest) ∧ Hid (Kp r w wr) ∧ Hid (k < n → I s st1) ∧ Hid (eitherR ((ps.drop k).map (·.2)) st1 = eitherR (ps.map (·.2)) st)) (fun i _ => n - (intOf i).toNat)
  case atStart => exact ⟨0, st, Nat.zero_le _, rfl, HR0.out, rfl, Kp.refl r w, fun _ => HI0.out, HE0.out⟩
  case round =>
    obtain ⟨k, st1, hk, rfl, HR, HS, HK, HI, HE⟩ := hrel
    have hk0 : (0 : Int) ≤ (k : Int) := by omega
    by_cases hlt : k < n
    · have hkp : k < ps.length := by rw [← HN.out]; exact hlt
      have hkz : (k : Int) < (n : Int) := by omega
      obtain ⟨x, hx⟩ : ∃ x, ps[k] = x := ⟨_, rfl⟩
      have hx2 : ps[k]? = some x := by rw [← hx]; exact List.getElem?_eq_getElem hkp
      obtain ⟨q1, q2⟩ := HPS.out x (by rw [← hx]; exact List.getElem_mem hkp)
      have hcell : wr.cell? ⟨b, k, none⟩ = some (meth x.1 r) := by
        rw [(HK.out.keep b _ _ HB.out (by decide) (by decide)).cell k, HML.out, hx2]
        rfl
      have hdr : (ps.drop k).map (·.2) = x.2 :: (ps.drop (k + 1)).map (·.2) := by
        rw [List.drop_eq_getElem_cons hkp, hx, List.map_cons]
      have HE2 := Lib.hid HE.out
      rw [hdr] at HE2
      have HC := Lib.hid (q1 s r wr st1 HM.out (HI.out hlt) HR.out)
      have HI2 := Lib.hid (fun (hk2 : k + 1 < n) => HPS2.out k x hx2 (by rw [← HN.out]; exact hk2) s st1 (HI.out hlt))
      have ek' : ∀ args w, (callFunc x.1 args).run Tryz.prog w = .ok (.enter x.1 args) w := q2
      unfold meth at hcell
      generalize x.1 = kk at *
      generalize x.2 = g at *
      clear hx hx2 q1 q2 hdr hkp
      cases hg : (g st1).1 with
      | true =>
        have HG := Lib.hid hg
        clear hg
        go_wp2_with (go_at_fn kk; refine HC.out.mono ?_; rintro e w1 ⟨rfl, h1, hkp⟩; rw [HG.out]; have H1 := Lib.hid h1; have HKQ := Lib.hid hkp; clear h1 hkp)
        exact HYES.out st1 wr w1 g _ HE2.out HG.out HK.out H1.out HKQ.out
      | false =>
        have HG := Lib.hid hg
        have HE3 := Lib.hid HE2.out
        rw [either_cons, hg] at HE3
        simp only [Bool.false_eq_true, if_false] at HE3
        have HRS := Lib.hid (fun w1 (h1 : RdAt w1 r s (g st1).2) => (show (w1.frozen? ⟨r, 1, none⟩ = false ∧ ∃ u, w1.cell? ⟨r, 1, none⟩ = some u) ∧ RdAt (w1.setCell ⟨r, 1, none⟩ (.int .i64 (p : Int))) r s { (g st1).2 with rest := st1.rest } ∧ Kp r w1 (w1.setCell ⟨r, 1, none⟩ (.int .i64 (p : Int))) from by
          obtain ⟨p1, v1, hr1⟩ := h1
          exact ⟨⟨hr1.cells.frozen 1, _, hr1.cells.cell 1⟩, ⟨p, v1, hr1.put 1 _ rfl rfl HP0.out.1 (by rw [HP0.out.2]; exact HS.out.symm)⟩, (Kp.refl r w1).set_ hr1.cells 1 _⟩))
        clear hg
        go_wp2_with (go_at_fn kk; refine HC.out.mono ?_; rintro e w1 ⟨rfl, h1, hkp⟩; rw [HG.out]; obtain ⟨⟨f1, u, c1⟩, q1, q2⟩ := HRS.out w1 h1; have H1 := Lib.hid q1; have HKQ := Lib.hid (hkp.trans q2); clear h1 hkp q1 q2)
        go_roundw
        case rel => exact ⟨k + 1, _, by omega, by go_num, H1.out, HS.out, HK.out.trans HKQ.out, HI2.out, HE3.out⟩
        case measure => simp [intOf]; omega
    · have hke : k = n := by omega
      have hkz : ¬ (k : Int) < (n : Int) := by omega
      have HE2 := Lib.hid HE.out
      rw [hke, HN.out, List.drop_length] at HE2
      clear hke HE
      go_wp2
      exact HNO.out st1 _ HE2.out HR.out HK.out
end Go.Proofs.YtjgadocojdieeaaGreatDoor
