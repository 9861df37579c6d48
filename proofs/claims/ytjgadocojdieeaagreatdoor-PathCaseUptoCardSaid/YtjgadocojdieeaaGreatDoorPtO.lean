/-
  A reader's method quoted. Conditions: the reader lies in memory; its text is of at most 2^40 bytes.
-/
import Derived.Test.YtjgadocojdieeaaGreatDoorPtN
namespace Go.Proofs.YtjgadocojdieeaaGreatDoor
open Go.RowKit Go.Shelf

/-- behind a backslash, if there was one -/
def quoE (acc l : List UInt8) : Bool × List UInt8 × List UInt8 :=
  match l with
  | [] => (false, acc, [])
  | c :: r => if notB c then (false, acc, c :: r) else quoS (acc ++ [c]) r
theorem quoE_nil (acc : List UInt8) : quoE acc [] = (false, acc, []) := rfl
theorem quoE_bad (acc r : List UInt8) (c : UInt8) (h : notB c = true) : quoE acc (c :: r) = (false, acc, c :: r) := by simp [quoE, h]
theorem quoE_on (acc r : List UInt8) (c : UInt8) (h : notB c = false) : quoE acc (c :: r) = quoS (acc ++ [c]) r := by simp [quoE, h]
theorem fix92 : ∀ e, sml e = 92 → e = 92 := all_u8 (by decide +kernel)
theorem quo_step (acc : List UInt8) (st : Rs) (h : (takeR [34] st).1 = false) : quoS acc st.rest = quoE acc (takeR [92] st).2.rest := by
  have h34 : st.rest.head? ≠ some 34 := by
    intro e
    cases hr : st.rest with
    | nil => rw [hr] at e; cases e
    | cons c r =>
      rw [hr] at e
      obtain rfl : c = 34 := by simpa using e
      rw [one_yes rfl st r hr] at h
      cases h
  cases ht : (takeR [92] st).1 with
  | true =>
    obtain ⟨x, e1, e2⟩ := one_some fix92 ht
    rw [e1, e2]
    cases x with
    | nil => simp [quoS, quoE]
    | cons c r => rw [quoS_esc]; rfl
  | false =>
    rw [takeR_no _ _ ht]
    have h92 : st.rest.head? ≠ some 92 := by
      intro e
      cases hr : st.rest with
      | nil => rw [hr] at e; cases e
      | cons c r =>
        rw [hr] at e
        obtain rfl : c = 92 := by simpa using e
        rw [one_yes rfl st r hr] at ht
        cases ht
    cases hr : st.rest with
    | nil => simp [quoS, quoE]
    | cons c r =>
      rw [hr] at h34 h92
      rw [quoS_on acc c r (by simpa using h34) (by simpa using h92)]
      rfl
theorem own_kp {r : Nat} {W W' : World} {B n : Nat} {v : Value} {xs : List Value} (h : W.ownsRow B 5 1 v n xs) (hk : Kp r W W') : W'.ownsRow B 5 1 v n xs :=
  ⟨h.1, h.2.elim Or.inl (fun ⟨g, cap, cur, hv, hg, hb, q⟩ => Or.inr ⟨g, cap, cur, hv, hg, hk.keep g _ _ hb (by decide) (by decide), q⟩)⟩
theorem Kp.grown {r : Nat} {w W W' : World} {B n : Nat} {v : Value} {xs : List Value} (h : Kp r w W) (ho : W.ownsRow B 5 1 v n xs) (hg : W.grownBy W' v.ownBlock) (hB : w.heap.size ≤ B) (hr : r ≤ w.heap.size) : Kp r w W' := by
  refine ⟨h.low.trans ⟨hg.os, hg.tape, hg.output, hg.size, fun k hk => hg.block k (Nat.lt_of_lt_of_le hk (Nat.le_trans hr (by have := h.low.size; exact this))) (fun e => by have := own_ge ho e.symm; omega)⟩, fun k t cs hk h1 h2 => ?_⟩
  exact (h.keep k t cs hk h1 h2).kept hg (fun e => by have := own_ge ho e.symm; have := hk.lt; omega)
theorem RdIn.beside {W W' : World} {r : Nat} {s : List UInt8} {p B n : Nat} {v u : Value} {st : Rs} {xs : List Value} (h : RdIn W r s p v st) (ho : W.ownsRow B 5 1 u n xs) (hg : W.grownBy W' u.ownBlock) (hB : r ≤ B) : RdIn W' r s p v st := by
  refine ⟨h.cells.kept hg (blk_apart ho h.cells (by decide)), h.own.kept hg ?_, h.place, h.rest, h.len, ?_, h.low⟩
  · exact own_apart h.own ho (by decide)
  · have hb : Below r W W' := ⟨hg.os, hg.tape, hg.output, hg.size, fun k hk => hg.block k (Nat.lt_trans hk h.lt) (fun e => by have := own_ge ho e.symm; omega)⟩
    exact h.err.below hb h.low
theorem RdAt.rest_eq {w : World} {r : Nat} {s : List UInt8} {a b : Rs} (h : RdAt w r s a) (e : a = b) : RdAt w r s b := e ▸ h
set_option maxRecDepth 100000 in
set_option maxHeartbeats 4000000 in
theorem quoted_any (m : Nat) (hm : m ≤ 1099511627776) : Reads anyI m 75 quotedR := by
  intro s r w st hs _ h
  have HT0 := Lib.hid (take_any h [34] (by decide))
  have HTQ := Lib.hid (fun (W : World) (t : Rs) (ht : RdAt W r s t) => take_any ht [34] (by decide))
  have HTB := Lib.hid (fun (W : World) (t : Rs) (ht : RdAt W r s t) => take_any ht [92] (by decide))
  have hrw := h.lt
  have HNO1 : Hid (∀ w1, (takeR [34] st).1 = false → RdAt w1 r s (takeR [34] st).2 → Kp r w w1 → ReadOut w r s quotedR st (.returned (.bool false)) w1) := fun w1 hg h1 h2 => by
    unfold ReadOut quotedR
    rw [if_pos hg]
    exact ⟨rfl, h1, h2⟩
  obtain ⟨sq, hsq⟩ : ∃ sq, sq = (takeR [34] st).2 := ⟨_, rfl⟩
  have HNO2 : Hid (∀ w1 a b, (takeR [34] st).1 = true → quoS [] sq.rest = (false, a, b) → RdAt w1 r s { sq with rest := b } → Kp r w w1 → ReadOut w r s quotedR st (.returned (.bool false)) w1) := fun w1 a b hg he h1 h2 => by
    unfold ReadOut quotedR
    rw [if_neg (by simp [hg]), ← hsq, he]
    simp only [if_true]
    exact ⟨trivial, h1, h2⟩
  have HYES : Hid (∀ w1 a b, (takeR [34] st).1 = true → quoS [] sq.rest = (true, a, b) → RdAt w1 r s (meanR a { sq with rest := b }) → Kp r w w1 → ReadOut w r s quotedR st (.returned (.bool true)) w1) := fun w1 a b hg he h1 h2 => by
    unfold ReadOut quotedR
    rw [if_neg (by simp [hg]), ← hsq, he]
    simp only [Bool.true_eq_false, if_false]
    exact ⟨trivial, h1, h2⟩
  generalize ReadOut w r s quotedR st = Q at *
  have hsz : (bs s).size = s.length := rfl
  cases hg1 : (takeR [34] st).1 with
  | false =>
    have HG1 := Lib.hid hg1
    have HO := Lib.hid (fun w1 => HNO1.out w1 hg1)
    clear hg1 HNO1 HNO2 HYES HTQ HTB h hsq
    go_enter Tryz.func75, Tryz.ntmps75
    go_wp2_with (go_at_call 62; refine HT0.out.mono ?_; rintro e w1 ⟨rfl, h1, hkp⟩; rw [HG1.out]; have H1 := Lib.hid h1; have HKP1 := Lib.hid hkp; clear h1 hkp HT0)
    exact HO.out w1 H1.out HKP1.out
  | true =>
    have HG1 := Lib.hid hg1
    have HON := Lib.hid (fun w1 a b => HNO2.out w1 a b hg1)
    have HOY := Lib.hid (fun w1 a b => HYES.out w1 a b hg1)
    clear hg1 HNO1 HNO2 HYES h
    have HSQ := Lib.hid hsq
    clear hsq
    go_enter Tryz.func75, Tryz.ntmps75
    go_wp2_with (go_at_call 62; refine HT0.out.mono ?_; rintro e w1 ⟨rfl, h1, hkp⟩; rw [HG1.out]; rw [← HSQ.out] at h1; have H1 := Lib.hid h1; have HKP1 := Lib.hid hkp; clear h1 hkp HT0)
    have HB := Lib.hid (show w.heap.size ≤ w1.heap.size from by have := HKP1.out.low.size; exact this)
    have HFS := Lib.hid H1.out.bound
    obtain ⟨B, hB⟩ : ∃ B, B = w1.heap.size := ⟨_, rfl⟩
    rw [← hB] at HB
    have HBW := Lib.hid hB
    have HLEN : Hid (s.length ≤ 1099511627776) := Nat.le_trans hs hm
    have HE0 : Hid (quoS [] sq.rest = quoS [] sq.rest) := rfl
    have HRW := Lib.hid hrw
    clear hB hm hs hrw
    go_loopw [3] (fun u wr => ∃ (acc : List UInt8) (l : List UInt8), Hid (wr.ownsRow B 5 1 u acc.length (acc.map byteV)) ∧ Hid (RdAt wr r s { sq with rest := l }) ∧ Hid (Kp r w wr) ∧ Hid (acc.length + l.length ≤ s.length) ∧ Hid (B ≤ wr.heap.size) ∧ Hid (quoS acc l = quoS [] sq.rest)) (fun _ wr => s.length - placeW wr r)
    case atStart => exact ⟨[], sq.rest, World.ownsRow_nil _ _ _ _, H1.out, HKP1.out, (by show _ ≤ _; have := HFS.out; simpa using this), (by show _ ≤ _; rw [HBW.out]; exact Nat.le_refl _), HE0.out⟩
    case round =>
      obtain ⟨acc, l, HO, HR, HK, HAL, HLW, HE⟩ := hrel
      have HTK := Lib.hid (HTQ.out wr { sq with rest := l } HR.out)
      cases hg3 : (takeR [34] { sq with rest := l }).1 with
      | true =>
        have HG3 := Lib.hid hg3
        obtain ⟨x, e1, e2⟩ := one_some fix34 hg3
        simp only at e1 e2
        have HE2 := Lib.hid HE.out
        rw [e1, quoS_end] at HE2
        have HX : Hid ((takeR [34] { sq with rest := l }).2 = { sq with rest := x }) := by show _ = _; rw [e2]
        have HAM : Hid (acc.length ≤ maxLen) := by show _ ≤ _; have := HAL.out; have := HLEN.out; unfold maxLen; omega
        clear hg3 e1 e2
        go_upto_region 10 with (go_at_call 62; refine HTK.out.mono ?_; rintro e w3 ⟨rfl, h1, hkp⟩; rw [HG3.out]; have H3 := Lib.hid h1; have HK3 := Lib.hid (HK.out.trans hkp); have HO3 := Lib.hid (own_kp HO.out hkp); have HL3 := Lib.hid (Nat.le_trans HLW.out hkp.low.size); clear h1 hkp HTK)
        obtain ⟨A, c, rfl, hrow⟩ := own_slice HO3.out (by rw [List.length_map]; exact HAM.out)
        have hcv := conv_any w3 A acc c hrow
        have HME := Lib.hid (mean_any (H3.out.rest_eq HX.out) acc)
        clear hrow
        go_wp2_with (go_at_call 106; refine HME.out.mono ?_; rintro e w5 ⟨rfl, h5, hk5⟩; have H5 := Lib.hid h5; have HK5 := Lib.hid (HK3.out.trans hk5); clear h5 hk5)
        exact HOY.out w5 acc x HE2.out.symm H5.out HK5.out
      | false =>
        have HG3 := Lib.hid hg3
        have HX : Hid ((takeR [34] { sq with rest := l }).2 = { sq with rest := l }) := takeR_no _ _ hg3
        have HE2 := Lib.hid HE.out
        rw [quo_step acc { sq with rest := l } hg3] at HE2
        have HX2 : Hid ((takeR [92] { sq with rest := l }).2 = { sq with rest := (takeR [92] { sq with rest := l }).2.rest }) := (by
          cases ht : (takeR [92] { sq with rest := l }).1 with
          | true => obtain ⟨_, _, _, e4⟩ := take_some ht; exact e4
          | false => show _ = _; rw [takeR_no _ _ ht])
        have HSL : Hid ((takeR [92] { sq with rest := l }).2.rest.length ≤ l.length) := (suf_take [92] { sq with rest := l }).length_le
        have HTL : Hid (∀ (W : World), RdAt W r s (takeR [34] { sq with rest := l }).2 → Calls Tryz.prog 62 #[.pointer (some ⟨r, 0, none⟩), .string (bs [92])] W (ReadOut W r s (takeR [92]) { sq with rest := l })) := fun W h => HTB.out W _ (h.rest_eq HX.out)
        clear hg3
        go_upto_region 6 with (first | (go_at_call 62; refine HTK.out.mono ?_; rintro e w3 ⟨rfl, h1, hkp⟩; rw [HG3.out]; have H3 := Lib.hid h1; have HK3 := Lib.hid (HK.out.trans hkp); have HO3 := Lib.hid (own_kp HO.out hkp); have HL3 := Lib.hid (Nat.le_trans HLW.out hkp.low.size); clear h1 hkp HTK) | (go_at_call 62; refine (HTL.out w3 H3.out).mono ?_; rintro e w4 ⟨rfl, h1, hkp⟩; have H4 := Lib.hid h1; have HK4 := Lib.hid (HK3.out.trans hkp); have HO4 := Lib.hid (own_kp HO3.out hkp); have HL4 := Lib.hid (Nat.le_trans HL3.out hkp.low.size); clear h1 hkp))
        have H5 := Lib.hid (H4.out.rest_eq HX2.out)
        clear H4
        generalize (takeR [92] { sq with rest := l }).2.rest = l2 at *
        obtain ⟨p4, v4, hr4⟩ := H5.out
        have HR4 := Lib.hid hr4
        have c0 := hr4.cells.cell 0
        have c1 := hr4.cells.cell 1
        simp only [rdCells] at c0 c1
        simp at c0 c1
        have hcnt := hr4.count
        simp only at hcnt
        have hrst := hr4.rest
        simp only at hrst
        clear hr4 H5
        cases l2 with
        | nil =>
          have hpd : decide ((p4 : Int) = (s.length : Int)) = true := by simp at hcnt; simp; omega
          have hpe : (p4 : Int) = (s.length : Int) := by simp at hcnt; omega
          have HE3 := Lib.hid HE2.out
          rw [quoE_nil] at HE3
          clear hcnt hrst
          go_quiet (fail)
          go_wp2
          exact HON.out _ acc [] HE3.out.symm ⟨p4, v4, HR4.out.drewN nq⟩ (HK4.out.drewN nq)
        | cons d l3 =>
          have hlt : p4 < s.length := by simp at hcnt; omega
          have hd : s[p4] = d := by
            have h1 : (s.drop p4)[0]? = some d := by rw [hrst]; rfl
            rw [List.getElem?_drop, Nat.add_zero] at h1
            exact (List.getElem?_eq_some_iff.1 h1).2
          have hs1 : ∀ W, (Instr.index 9 (.string (bs s)) (.int .i64 (p4 : Int))).run Tryz.prog W = .ok (.int .u8 (d.toNat : Int)) W := fun W => by rw [← hd]; exact str_at s p4 hlt W
          have hpd : ((p4 : Int) == (s.length : Int)) = false := by simp; omega
          have hp0 : (0 : Int) ≤ (p4 : Int) := by omega
          have hpm : (p4 : Int) + 1 ≤ 1099511627777 := by have := HLEN.out; omega
          have HNS := Lib.hid (fun W => isNotShown_any d W)
          have HCN := Lib.hid hcnt
          have HRS : Hid (s.drop (p4 + 1) = l3) := by
            show _ = _
            rw [← List.drop_drop, hrst]
            rfl
          clear hd hlt hcnt hrst
          cases hnb : notB d with
          | true =>
            rw [hnb] at HNS
            have HE3 := Lib.hid HE2.out
            rw [quoE_bad _ _ _ hnb] at HE3
            clear hnb
            go_quiet ((go_at_call 81; refine (HNS.out _).mono ?_; rintro e w' ⟨rfl, rfl⟩; exact ⟨rfl, _, rfl⟩))
            go_wp2
            exact HON.out _ acc _ HE3.out.symm ⟨p4, v4, HR4.out.drewN nq⟩ (HK4.out.drewN nq)
          | false =>
            rw [hnb] at HNS
            have HE3 := Lib.hid HE2.out
            rw [quoE_on _ _ _ hnb] at HE3
            clear hnb
            go_quiet ((go_at_call 81; refine (HNS.out _).mono ?_; rintro e w' ⟨rfl, rfl⟩; exact ⟨rfl, _, rfl⟩))
            have HR5 := Lib.hid (HR4.out.drewN nq)
            have HK5 := Lib.hid (HK4.out.drewN nq)
            have HO5 : Hid ((w4.drewN nq).ownsRow B 5 1 u3 acc.length (acc.map byteV)) := ownsRow_kept HO4.out ⟨rfl, rfl, rfl, Nat.le_refl _, fun _ _ => rfl⟩
            have HL5 : Hid (B ≤ (w4.drewN nq).heap.size) := HL4.out
            have HAL2 : Hid ((acc ++ [d]).length + l3.length ≤ s.length) := by
              show _ ≤ _
              have h1 := HAL.out
              have h2 := HSL.out
              simp at h2 ⊢
              omega
            have HPL : Hid (placeW wr r + l.length = s.length) := by
              obtain ⟨p0, v0, hr0⟩ := HR.out
              show _ = _
              rw [hr0.placeW]
              exact hr0.count
            clear HR4 HK4 HO4 HL4 c0 c1
            generalize w4.drewN nq = W5 at *
            go_upto_region 8 with (fail)
            have c0 := HR5.out.cells.cell 0
            have c1 := HR5.out.cells.cell 1
            simp only [rdCells] at c0 c1
            simp at c0 c1
            have HR6 := Lib.hid ((HR5.out.later ((Below.refl _ _).alloc (Nat.le_refl _) (.cells #[.int .u8 (d.toNat : Int)] 5))).drewN 1)
            have HK6 := Lib.hid ((HK5.out.of_low ((Below.refl _ _).alloc (Nat.le_refl _) (.cells #[.int .u8 (d.toNat : Int)] 5)) (Nat.le_of_lt HR5.out.lt)).drewN 1)
            have HO6 : Hid ((W5.alloc (.cells #[.int .u8 (d.toNat : Int)] 5)).drew.ownsRow B 5 1 u3 acc.length (acc.map byteV)) := ownsRow_kept HO5.out ((Below.refl _ _).alloc (Nat.le_refl _) _).drew
            have HL6 : Hid (B ≤ (W5.alloc (.cells #[.int .u8 (d.toNat : Int)] 5)).drew.heap.size) := by show B ≤ (W5.alloc (.cells #[.int .u8 (d.toNat : Int)] 5)).heap.size; rw [World.size_alloc]; exact Nat.le_succ_of_le HL5.out
            have HBN : Hid (Blk (W5.alloc (.cells #[.int .u8 (d.toNat : Int)] 5)).drew W5.heap.size 5 #[byteV d]) := (Blk.new _ _ _).drew
            have HAC : Hid (acc.length ≤ 1099511627776) := by show _ ≤ _; have := HAL.out; have := HLEN.out; omega
            go_region_law (refine step_byte rfl _ _ rfl B u3 _ _ d rfl HO6.out HL6.out W5.heap.size rfl HBN.out HAC.out ?_; intro v7 W7 hown hgr; have HR7 := Lib.hid (HR6.out.beside HO6.out hgr (Nat.le_trans (Nat.le_of_lt HRW.out) HB.out)); have HK7 := Lib.hid (HK6.out.grown HO6.out hgr HB.out (Nat.le_of_lt HRW.out)); have HO7 := Lib.hid hown; have HL7 := Lib.hid (show B ≤ W7.heap.size from Nat.le_trans HL6.out hgr.size); clear hown hgr)
            all_goals
              have c3 := HR7.out.cells.cell 1
              have f3 := HR7.out.cells.frozen 1
              simp only [rdCells] at c3
              simp at c3
              have HP8 := Lib.hid (HR7.out.put (q := p4 + 1) (st' := { sq with rest := l3 }) 1 (.int .i64 ((p4 : Int) + 1)) (by simp [rdCells]) rfl (by have := HCN.out; simp at this; omega) HRS.out)
              have HK8 := Lib.hid (HK7.out.set_ HR7.out.cells 1 (.int .i64 ((p4 : Int) + 1)))
              have HO8 : Hid ((W7.setCell ⟨r, 1, none⟩ (.int .i64 ((p4 : Int) + 1))).ownsRow B 5 1 v7 (acc ++ [d]).length ((acc ++ [d]).map byteV)) := by
                have h1 := own_set HO7.out HR7.out.cells (by decide) 1 (.int .i64 ((p4 : Int) + 1))
                show World.ownsRow _ _ _ _ _ _ _
                simpa using h1
              have HL8 : Hid (B ≤ (W7.setCell ⟨r, 1, none⟩ (.int .i64 ((p4 : Int) + 1))).heap.size) := by show _ ≤ _; simp [World.setCell]; exact HL7.out
              have HM8 := Lib.hid HP8.out.placeW
              clear c0 c1
              go_wp2
              go_roundw
            all_goals first
              | exact ⟨acc ++ [d], l3, HO8.out, ⟨_, _, HP8.out⟩, HK8.out, HAL2.out, HL8.out, HE3.out⟩
              | (have h1 := HM8.out; have h2 := HPL.out; have h3 := HSL.out; have h4 := HCN.out; rw [h1]; simp at h3 h4; omega)
end Go.Proofs.YtjgadocojdieeaaGreatDoor
