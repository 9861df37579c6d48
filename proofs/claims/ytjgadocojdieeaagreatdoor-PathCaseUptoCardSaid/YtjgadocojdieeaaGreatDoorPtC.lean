/-
  A reader's methods that take a function: run, piece. Conditions: the reader lies in memory; the function answers as is said of it.
-/
import Derived.Test.YtjgadocojdieeaaGreatDoorPtB
namespace Go.Proofs.YtjgadocojdieeaaGreatDoor
open Go.RowKit Go.Shelf

/-- a function may be called through a value -/
def Ent (k : Nat) : Prop := ∀ args w, (callFunc k args).run Tryz.prog w = .ok (.enter k args) w
theorem ent_digit : Ent 104 := enters_of Tryz.func104 (by kernel_rfl) rfl
theorem ent_hex : Ent 121 := enters_of Tryz.func121 (by kernel_rfl) rfl
theorem ent_label : Ent 120 := enters_of Tryz.func120 (by kernel_rfl) rfl
theorem ent_atom : Ent 135 := enters_of Tryz.func135 (by kernel_rfl) rfl
theorem str_cut (s : List UInt8) (i j : Nat) (h : i ≤ j) (hj : j ≤ s.length) (W : World) : (Instr.slice 9 (.string (bs s)) (some (.int .i64 (i : Int))) (some (.int .i64 (j : Int))) none).run Tryz.prog W = .ok (.string (bs ((s.drop i).take (j - i)))) W := by
  rw [run_slice_string W 9 (bs s) .i64 .i64 (i : Int) (j : Int) Tryz.underlying9 (by omega) (by omega) (by rw [bs_size]; omega)]
  congr 2
  simp only [Int.toNat_natCast]
  have : ((bs s).extract i j).data = (bs ((s.drop i).take (j - i))).data := by
    rw [ByteArray.data_extract]
    apply Array.toList_inj.1
    simp [bs, List.extract_eq_take_drop]
  cases h1 : (bs s).extract i j
  rw [h1] at this
  cases h2 : bs ((s.drop i).take (j - i))
  rw [h2] at this
  simp only at this
  rw [this]
def RunOut (w : World) (r : Nat) (s : List UInt8) (q : UInt8 → Bool) (st : Rs) (e : Ending) (w' : World) : Prop := e = .returned (.string (bs (runL q st))) ∧ RdAt w' r s (runR q st) ∧ Kp r w w'
theorem tw_split (q : UInt8 → Bool) (l : List UInt8) : l.takeWhile q = l.take (l.takeWhile q).length ∧ l.dropWhile q = l.drop (l.takeWhile q).length := by
  have h := List.takeWhile_append_dropWhile (p := q) (l := l)
  constructor
  · conv => rhs; arg 2; rw [← h]
    rw [List.take_left]
  · conv => rhs; arg 2; rw [← h]
    rw [List.drop_left]
theorem tw_len (q : UInt8 → Bool) (l : List UInt8) (n : Nat) (hn : n ≤ l.length) (h1 : ∀ j (h : j < l.length), j < n → q l[j] = true) (h2 : ∀ h : n < l.length, q l[n] = false) : (l.takeWhile q).length = n := by
  induction l generalizing n with
  | nil => simp at hn ⊢; omega
  | cons c l ih =>
    rw [List.takeWhile_cons]
    cases n with
    | zero =>
      have := h2 (by simp)
      simp only [List.getElem_cons_zero] at this
      rw [this]
      rfl
    | succ n =>
      have h0 := h1 0 (by simp) (by omega)
      simp only [List.getElem_cons_zero] at h0
      rw [h0]
      simp only [if_true, List.length_cons, Nat.add_right_cancel_iff]
      exact ih n (by simpa using hn) (fun j hj hjn => by have := h1 (j + 1) (by simpa using hj) (by omega); simpa using this) (fun hh => by have := h2 (by simpa using hh); simpa using this)
/-- the place of a reader, off the world -/
def placeW (w : World) (r : Nat) : Nat := match w.cell? ⟨r, 1, none⟩ with | some (.int .i64 z) => z.toNat | _ => 0
theorem RdIn.placeW {w : World} {r : Nat} {s : List UInt8} {p : Nat} {v : Value} {st : Rs} (h : RdIn w r s p v st) : placeW w r = p := by
  unfold Go.Proofs.YtjgadocojdieeaaGreatDoor.placeW
  rw [h.cells.cell 1]
  simp [rdCells]
set_option maxRecDepth 100000 in
set_option maxHeartbeats 2000000 in
theorem run_any {w : World} {r : Nat} {s : List UInt8} {st : Rs} (h : RdAt w r s st) {k : Nat} {q : UInt8 → Bool} (hk : IsB k q) (ek : Ent k) : Calls Tryz.prog 103 #[.pointer (some ⟨r, 0, none⟩), .func (.func k) #[] #[]] w (RunOut w r s q st) := by
  obtain ⟨p, v, h⟩ := h
  have ek' : ∀ args w, (callFunc k args).run Tryz.prog w = .ok (.enter k args) w := ek
  clear ek
  have hp := h.place
  have hl := h.len
  have HOUT : Hid (∀ i w' b, p + i ≤ s.length → (∀ j (hj : j < st.rest.length), j < i → q st.rest[j] = true) → (∀ hi : i < st.rest.length, q st.rest[i] = false) → RdIn w' r s (p + i) v { st with rest := st.rest.drop i } → Kp r w w' → b = (s.drop p).take i → RunOut w r s q st (.returned (.string (bs b))) w') := fun i w' b hi hq hn hr hkp hb => by
    have hlen : st.rest.length = s.length - p := by rw [← h.rest, List.length_drop]
    have ht := tw_len q st.rest i (by omega) hq hn
    obtain ⟨e1, e2⟩ := tw_split q st.rest
    rw [ht] at e1 e2
    subst hb
    rw [h.rest, ← e1]
    refine ⟨rfl, ⟨p + i, v, ?_⟩, hkp⟩
    unfold runR
    rw [e2]
    exact hr
  generalize RunOut w r s q st = Q at *
  have hsz : (bs s).size = s.length := rfl
  have c1 := h.cells.cell 1
  simp only [rdCells] at c1
  simp at c1
  have HD : Hid (s.drop p = st.rest) := h.rest
  have HRD : Hid (RdIn w r s (p + 0) v { st with rest := st.rest.drop 0 }) := by rw [Nat.add_zero, List.drop_zero]; exact h
  clear h
  go_enter Tryz.func103, Tryz.ntmps103
  go_wp2
  clear c1
  go_loopw [] (fun wr => ∃ i, p + i ≤ s.length ∧ Hid (∀ j (hj : j < st.rest.length), j < i → q st.rest[j] = true) ∧ Hid (RdIn wr r s (p + i) v { st with rest := st.rest.drop i }) ∧ Hid (Kp r w wr)) (fun wr => s.length - placeW wr r)
  case atStart => exact ⟨0, by omega, fun j _ h => absurd h (by omega), HRD.out, Kp.refl r w⟩
  case round =>
    obtain ⟨i, hi, HQ, HR, HK⟩ := hrel
    have c0 := HR.out.cells.cell 0
    have c1 := HR.out.cells.cell 1
    have f1 := HR.out.cells.frozen 1
    simp only [rdCells] at c0 c1
    simp at c0 c1
    have HPL := Lib.hid HR.out.placeW
    have hlen : st.rest.length = s.length - p := by rw [← HD.out, List.length_drop]
    by_cases hlt : p + i < s.length
    · have hil : i < st.rest.length := by omega
      have hel : st.rest[i] = s[p + i] := by
        have h1 : st.rest[i]? = some s[p + i] := by rw [← HD.out, List.getElem?_drop, List.getElem?_eq_getElem hlt]
        exact (List.getElem?_eq_some_iff.1 h1).2
      have HSTEP : Hid (∀ q', ((wr.drewN q').setCell ⟨r, 1, none⟩ (.int .i64 (((p : Int) + (i : Int)) + 1))) = ((wr.drewN q').setCell ⟨r, 1, none⟩ (.int .i64 ((p + i + 1 : Nat) : Int)))) := fun q' => by congr 2
      have HPUT : Hid (∀ q', RdIn ((wr.drewN q').setCell ⟨r, 1, none⟩ (.int .i64 ((p + i + 1 : Nat) : Int))) r s (p + (i + 1)) v { st with rest := st.rest.drop (i + 1) }) := fun q' =>
        (HR.out.drewN q').put 1 _ rfl rfl (by omega) (by simp only; rw [← HD.out, List.drop_drop])
      have HKP : Hid (∀ q' u, Kp r w ((wr.drewN q').setCell ⟨r, 1, none⟩ u)) := fun q' u => (HK.out.drewN q').set_ (HR.out.drewN q').cells 1 u
      have hs1 : ∀ W, (Instr.index 9 (.string (bs s)) (.int .i64 ((p : Int) + (i : Int)))).run Tryz.prog W = .ok (.int .u8 (s[p + i].toNat : Int)) W := fun W => str_at s (p + i) hlt W
      have hps : (p : Int) + (i : Int) < (s.length : Int) := by omega
      have hp0 : (0 : Int) ≤ (p : Int) + (i : Int) := by omega
      have hpm : (p : Int) + (i : Int) + 1 ≤ 9223372036854775807 := by omega
      have hcut : ∀ W, (Instr.slice 9 (.string (bs s)) (some (.int .i64 (p : Int))) (some (.int .i64 ((p : Int) + (i : Int)))) none).run Tryz.prog W = .ok (.string (bs ((s.drop p).take (p + i - p)))) W := fun W => str_cut s p (p + i) (by omega) (by omega) W
      have HQ2 : Hid (q s[p + i] = true → ∀ j (hj : j < st.rest.length), j < i + 1 → q st.rest[j] = true) := fun hq j hj hji => by
        by_cases h : j < i
        · exact HQ.out j hj h
        · have : j = i := by omega
          subst this
          rw [hel]
          exact hq
      have HQ3 : Hid (q s[p + i] = false → ∀ hi : i < st.rest.length, q st.rest[i] = false) := fun hq _ => by rw [hel]; exact hq
      have hHK := Lib.hid (fun c W => hk c W)
      clear hel hil hlen
      generalize s[p + i] = c at *
      have HLT := Lib.hid hlt
      have HIX := Lib.hid hi
      clear hlt hi
      cases hqc : q c with
      | true =>
        have HFN := Lib.hid (fun W => hHK.out c W)
        rw [hqc] at HFN
        have HQ4 := Lib.hid (HQ2.out hqc)
        clear HQ2 HQ3 hqc hcut
        go_wp2
        go_quiet ((go_at_fn k; refine (HFN.out _).mono ?_; rintro e w' ⟨rfl, rfl⟩; exact ⟨rfl, _, rfl⟩))
        go_wp2
        have hst := HSTEP.out nq
        rw [hst]
        refine ⟨⟨i + 1, Nat.succ_le_of_lt HLT.out, HQ4.out, HPUT.out nq, HKP.out nq _⟩, ?_⟩
        have h1 := (HPUT.out nq).placeW
        have h2 := HLT.out
        have h3 := HPL.out
        rw [h1, h3]
        omega
      | false =>
        have HFN := Lib.hid (fun W => hHK.out c W)
        rw [hqc] at HFN
        have HQ4 := Lib.hid (HQ3.out hqc)
        clear HQ2 HQ3 hqc
        go_wp2
        go_quiet ((go_at_fn k; refine (HFN.out _).mono ?_; rintro e w' ⟨rfl, rfl⟩; exact ⟨rfl, _, rfl⟩))
        go_wp2
        have HR2 := Lib.hid (HR.out.drewN nq)
        have HK2 := Lib.hid (HK.out.drewN nq)
        clear HR HK HPUT HKP HSTEP HPL c0 c1 f1 HRD
        generalize wr.drewN nq = W2 at *
        have c0 := HR2.out.cells.cell 0
        have c1 := HR2.out.cells.cell 1
        simp only [rdCells] at c0 c1
        simp at c0 c1
        clear hs1 hps
        go_quiet (fail)
        go_wp2
        exact HOUT.out i _ _ HIX.out HQ.out HQ4.out (HR2.out.drewN nq) (HK2.out.drewN nq) rfl
    · have hie : p + i = s.length := by omega
      have hps : ¬ (p : Int) + (i : Int) < (s.length : Int) := by omega
      have hpd : decide ((p : Int) + (i : Int) < (s.length : Int)) = false := decide_eq_false hps
      have hcut : ∀ W, (Instr.slice 9 (.string (bs s)) (some (.int .i64 (p : Int))) (some (.int .i64 ((p : Int) + (i : Int)))) none).run Tryz.prog W = .ok (.string (bs ((s.drop p).take (p + i - p)))) W := fun W => str_cut s p (p + i) (by omega) (by omega) W
      have HIE := Lib.hid hie
      have HIX := Lib.hid hi
      have HLN := Lib.hid hlen
      clear hlt hie hi hlen
      go_wp2
      go_quiet (fail)
      go_wp2
      have HR2 := Lib.hid (HR.out.drewN nq)
      have HK2 := Lib.hid (HK.out.drewN nq)
      clear HR HK HPL c0 c1 f1 HRD
      generalize wr.drewN nq = W2 at *
      have c0 := HR2.out.cells.cell 0
      have c1 := HR2.out.cells.cell 1
      simp only [rdCells] at c0 c1
      simp at c0 c1
      clear hps
      go_quiet (fail)
      go_wp2
      exact HOUT.out i _ _ HIX.out HQ.out (fun hh => absurd hh (by have h1 := HLN.out; have h2 := HIE.out; omega)) (HR2.out.drewN nq) (HK2.out.drewN nq) rfl
end Go.Proofs.YtjgadocojdieeaaGreatDoor
