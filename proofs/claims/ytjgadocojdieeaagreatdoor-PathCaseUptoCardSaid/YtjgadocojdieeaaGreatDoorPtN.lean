/-
  A reader's method hop. Conditions: the reader lies in memory; its text is of at most 2^40 bytes; there are fewer domains than bytes.
-/
import Derived.Test.YtjgadocojdieeaaGreatDoorPtM
import Derived.Test.YtjgadocojdieeaaGreatDoorPtF
namespace Go.Proofs.YtjgadocojdieeaaGreatDoor
open Go.RowKit Go.Shelf

theorem info_of {P : Program} {e : TypeId} {z : Option Value} {a b : Nat} (h : (P.info? e).map (fun i => (i.zero, i.size, i.bytes)) = some (z, a, b)) : ∃ i, P.info? e = some i ∧ i.zero = z ∧ i.size = a ∧ i.bytes = b := by
  cases h0 : P.info? e with
  | none => rw [h0] at h; cases h
  | some i =>
    rw [h0] at h
    simp only [Option.map_some, Option.some.injEq, Prod.mk.injEq] at h
    exact ⟨i, rfl, h.1, h.2.1, h.2.2⟩
theorem info_text : (Tryz.prog.info? 9).map (fun i => (i.zero, i.size, i.bytes)) = some (some (.string ⟨#[]⟩), 1, 16) := by kernel_rfl
theorem info_byte : (Tryz.prog.info? 5).map (fun i => (i.zero, i.size, i.bytes)) = some (some (.int .u8 0), 1, 1) := by kernel_rfl
/-- one text more, as a step of a region that draws -/
theorem step_text {ops : Array Oper} {o : Oper} {act : Act} {K : Act → World → Prop} {Q : Exit → Act → World → Prop} {W : World} {E : Prop} (hgd : o.guard = none) (s x : Operand)
    (ho : o.op = .call { callee := .builtin .append, args := #[s, x], argTypes := #[22, 22] })
    (B : Nat) (v : Value) (l : List Value) (n : Nat) (t : List UInt8) (hs : act.eval s = v) (hown : W.ownsRow B 9 1 v n l) (hB : B ≤ W.heap.size) (g : Nat) (hx : act.eval x = .slice (some ⟨g, 0, none⟩) 1 1) (hb : Blk W g 9 #[textV t]) (hl : n ≤ 1099511627776)
    (h : ∀ v' W', W'.ownsRow B 9 1 v' (n + 1) (l ++ [textV t]) → W.grownBy W' v.ownBlock → K (act.put o.dst v') W') :
    if Region.wanted o (yielded ops act.tmps) = true then Oper.wp Tryz.prog o act W K Q else E := by
  obtain ⟨i0, hi, hz0, hz1, hz2⟩ := info_of info_text
  have hw : Region.wanted o (yielded ops act.tmps) = true := by simp [Region.wanted, hgd]
  rw [if_pos hw]
  refine wp_append_own W s x 22 ho B 9 i0 (.string ⟨#[]⟩) 1 16 Tryz.underlying22 hi hz0 hz1 hz2 rfl (by decide) v n _ hs hown ⟨g, 0, none⟩ 1 1 [textV t] hx rfl ?_ ?_ (by unfold maxLen; omega) (by omega) hB (fun v' W' h2 h3 _ => h v' W' h2 h3)
  · intro j u hj
    rw [Addr.add_lit, Nat.zero_add, hb.cell j]
    simpa using hj
  · simp [textV, Value.oneCell']
/-- one byte more, as a step of a region that draws -/
theorem step_byte {ops : Array Oper} {o : Oper} {act : Act} {K : Act → World → Prop} {Q : Exit → Act → World → Prop} {W : World} {E : Prop} (hgd : o.guard = none) (s x : Operand)
    (ho : o.op = .call { callee := .builtin .append, args := #[s, x], argTypes := #[40, 40] })
    (B : Nat) (v : Value) (l : List Value) (n : Nat) (t : UInt8) (hs : act.eval s = v) (hown : W.ownsRow B 5 1 v n l) (hB : B ≤ W.heap.size) (g : Nat) (hx : act.eval x = .slice (some ⟨g, 0, none⟩) 1 1) (hb : Blk W g 5 #[byteV t]) (hl : n ≤ 1099511627776)
    (h : ∀ v' W', W'.ownsRow B 5 1 v' (n + 1) (l ++ [byteV t]) → W.grownBy W' v.ownBlock → K (act.put o.dst v') W') :
    if Region.wanted o (yielded ops act.tmps) = true then Oper.wp Tryz.prog o act W K Q else E := by
  obtain ⟨i0, hi, hz0, hz1, hz2⟩ := info_of info_byte
  have hw : Region.wanted o (yielded ops act.tmps) = true := by simp [Region.wanted, hgd]
  rw [if_pos hw]
  refine wp_append_own W s x 40 ho B 5 i0 (.int .u8 0) 1 1 Tryz.underlying40 hi hz0 hz1 hz2 rfl (by decide) v n _ hs hown ⟨g, 0, none⟩ 1 1 [byteV t] hx rfl ?_ ?_ (by unfold maxLen; omega) (by omega) hB (fun v' W' h2 h3 _ => h v' W' h2 h3)
  · intro j u hj
    rw [Addr.add_lit, Nat.zero_add, hb.cell j]
    simpa using hj
  · simp [byteV, Value.oneCell']
theorem own_ge {W : World} {B z n : Nat} {e : TypeId} {v : Value} {xs : List Value} (h : W.ownsRow B e z v n xs) {g : Nat} (hg : v.ownBlock = some g) : B ≤ g := by
  rcases h.2 with ⟨e1, _⟩ | ⟨g', cap, cur, e1, hB, _⟩
  · subst e1; cases hg
  · subst e1
    simp only [Value.ownBlock, Option.some.injEq] at hg
    omega
/-- the route's row has grown -/
theorem RdIn.grow {W W' : World} {r : Nat} {s : List UInt8} {p : Nat} {v v' : Value} {st : Rs} {t : List UInt8} (h : RdIn W r s p v st) (ho : W'.ownsRow (r + 1) 9 1 v' (st.route.length + 1) (st.route.map textV ++ [textV t])) (hg : W.grownBy W' v.ownBlock) :
    Blk W' r 49 (rdCells s p st v) ∧ RdIn (W'.setCell ⟨r, 3, none⟩ v') r s p v' { st with route := st.route ++ [t] } ∧ Kp r W (W'.setCell ⟨r, 3, none⟩ v') := by
  have hne : some r ≠ v.ownBlock := blk_apart h.own h.cells (by decide)
  have hb : Blk W' r 49 (rdCells s p st v) := h.cells.kept hg hne
  have hlow : Below r W W' := ⟨hg.os, hg.tape, hg.output, hg.size, fun k hk => hg.block k (Nat.lt_trans hk h.lt) (fun e => by have := own_ge h.own e.symm; omega)⟩
  have hkp : Kp r W W' := ⟨hlow, fun k t' cs hk _ h2 => hk.kept hg (blk_apart h.own hk h2)⟩
  refine ⟨hb, ⟨?_, ?_, h.place, h.rest, h.len, ?_, h.low⟩, hkp.set_ hb 3 v'⟩
  · exact hb.set_ 3 v'
  · have := own_set ho hb (by decide) 3 v'
    simpa using this
  · have hb3 : Below r W (W'.setCell ⟨r, 3, none⟩ v') := hlow.setCell (p := ⟨r, 3, none⟩) (Nat.le_refl _) v'
    exact h.err.below hb3 h.low
def hopI (s : List UInt8) (st : Rs) : Prop := st.route.length + st.rest.length ≤ s.length
theorem labels_same (st : Rs) : Kept st (labelsR st).2 := keep_each (fun _ => ⟨rfl, rfl, rfl, rfl, rfl⟩) [46] st
theorem domain_same (st : Rs) : Kept st (domainR st).2 := by
  obtain ⟨h1, h2, h3, h4, h5⟩ := labels_same st
  exact ⟨h1, h2, h3, h4, h5⟩
theorem hopI2 (s : List UInt8) (st : Rs) (h : hopI s st) (hh : (hopR st).1 = true) : hopI s (hopR st).2 := by
  unfold hopR at hh ⊢
  split at hh
  · cases hh
  · rename_i h1
    split at hh
    · cases hh
    · rename_i h2
      rw [if_neg h1, if_neg h2]
      obtain ⟨x, e1, e2⟩ := one_some fix64 (by simpa using h1)
      have h3 := (suf_domain (takeR [64] st).2).length_le
      have h4 := (domain_same (takeR [64] st).2).route
      rw [e2] at h3 h4
      have e1l : st.rest.length = x.length + 1 := by rw [e1]; rfl
      unfold hopI at h ⊢
      simp only [e2, List.length_append, List.length_singleton]
      rw [h4]
      simp only at h3 ⊢
      omega
set_option maxRecDepth 100000 in
set_option maxHeartbeats 2000000 in
theorem hop_any (m : Nat) (hm : m ≤ 1099511627776) : Reads hopI m 94 hopR := by
  intro s r w st hs hI h
  have HT1 := Lib.hid (take_any h [64] (by decide))
  have HP := Lib.hid (fun (W : World) (hW : RdAt W r s (takeR [64] st).2) => piece_any (domain_any m (by omega)) ent_m_domain suf_domain hW hs trivial)
  have HIS := Lib.hid (fun W => inSmall_any (used (takeR [64] st).2 (domainR (takeR [64] st).2).2) (by have := used_len_le (takeR [64] st).2 (domainR (takeR [64] st).2).2; have := h.bound; have := (suf_take [64] st).length_le; omega) W)
  have HRL : Hid ((domainR (takeR [64] st).2).2.route.length ≤ 1099511627776) := by
    have h1 := (domain_same (takeR [64] st).2).route
    have h2 := (keep_take [64] st).route
    show _ ≤ _
    rw [h1, h2]
    unfold hopI at hI
    omega
  have HNO1 : Hid (∀ w1, (takeR [64] st).1 = false → RdAt w1 r s (takeR [64] st).2 → Kp r w w1 → ReadOut w r s hopR st (.returned (.bool false)) w1) := fun w1 hg h1 h2 => by
    unfold ReadOut hopR
    rw [if_pos hg]
    exact ⟨rfl, h1, h2⟩
  have HNO2 : Hid (∀ w1, (takeR [64] st).1 = true → (domainR (takeR [64] st).2).1 = false → RdAt w1 r s (domainR (takeR [64] st).2).2 → Kp r w w1 → ReadOut w r s hopR st (.returned (.bool false)) w1) := fun w1 hg hg2 h1 h2 => by
    unfold ReadOut hopR
    rw [if_neg (by simp [hg]), if_pos hg2]
    exact ⟨rfl, h1, h2⟩
  have HYES : Hid (∀ w1 p v, (takeR [64] st).1 = true → (domainR (takeR [64] st).2).1 = true → RdIn w1 r s p v { (domainR (takeR [64] st).2).2 with route := (domainR (takeR [64] st).2).2.route ++ [low (used (takeR [64] st).2 (domainR (takeR [64] st).2).2)] } → Kp r w w1 → ReadOut w r s hopR st (.returned (.bool true)) w1) := fun w1 p v hg hg2 h1 h2 => by
    unfold ReadOut hopR
    rw [if_neg (by simp [hg]), if_neg (by simp [hg2])]
    exact ⟨rfl, ⟨p, v, h1⟩, h2⟩
  generalize ReadOut w r s hopR st = Q at *
  have hmf : ∀ (fn : Fn) (first cap : Array Value) (w : World), (Instr.makeFunc fn first cap).run Tryz.prog w = .ok (.func fn first cap) w := fun _ _ _ _ => rfl
  clear h hI
  cases hg1 : (takeR [64] st).1 with
  | false =>
    have HG1 := Lib.hid hg1
    have HO := Lib.hid (fun w1 => HNO1.out w1 hg1)
    clear hg1 HNO1 HNO2 HYES HP HIS HRL
    go_enter Tryz.func94, Tryz.ntmps94
    go_wp2_with (go_at_call 62; refine HT1.out.mono ?_; rintro e w1 ⟨rfl, h1, hkp⟩; rw [HG1.out]; have H1 := Lib.hid h1; have HKP1 := Lib.hid hkp; clear h1 hkp HT1)
    exact HO.out w1 H1.out HKP1.out
  | true =>
    have HG1 := Lib.hid hg1
    cases hg2 : (domainR (takeR [64] st).2).1 with
    | false =>
      have HG2 := Lib.hid hg2
      have HO := Lib.hid (fun w1 => HNO2.out w1 hg1 hg2)
      clear hg1 hg2 HNO1 HNO2 HYES HIS HRL
      go_enter Tryz.func94, Tryz.ntmps94
      go_wp2_with (first | (go_at_call 62; refine HT1.out.mono ?_; rintro e w1 ⟨rfl, h1, hkp⟩; rw [HG1.out]; have H1 := Lib.hid h1; have HKP1 := Lib.hid hkp; clear h1 hkp HT1) | (go_at_call 68; refine (HP.out w1 H1.out).mono ?_; rintro e w2 ⟨rfl, h1, hkp⟩; rw [HG2.out]; have H2 := Lib.hid h1; have HKP2 := Lib.hid hkp; clear h1 hkp))
      exact HO.out w2 H2.out (HKP1.out.trans HKP2.out)
    | true =>
      have HG2 := Lib.hid hg2
      have HO := Lib.hid (fun w1 p v => HYES.out w1 p v hg1 hg2)
      clear hg1 hg2 HNO1 HNO2 HYES
      go_enter Tryz.func94, Tryz.ntmps94
      go_upto_region 5 with (first | (go_at_call 62; refine HT1.out.mono ?_; rintro e w1 ⟨rfl, h1, hkp⟩; rw [HG1.out]; have H1 := Lib.hid h1; have HKP1 := Lib.hid hkp; clear h1 hkp HT1) | (go_at_call 68; refine (HP.out w1 H1.out).mono ?_; rintro e w2 ⟨rfl, h1, hkp⟩; rw [HG2.out]; have H2 := Lib.hid h1; have HKP2 := Lib.hid hkp; clear h1 hkp))
      generalize used (takeR [64] st).2 (domainR (takeR [64] st).2).2 = X at *
      generalize (domainR (takeR [64] st).2).2 = st2 at *
      have HK0 := Lib.hid (HKP1.out.trans HKP2.out)
      obtain ⟨p, v, hr⟩ := H2.out
      have HR3 := Lib.hid (hr.drewN 1)
      have c3 := HR3.out.cells.cell 3
      simp only [rdCells] at c3
      simp at c3
      clear hr H2 HKP1 HKP2 HP H1
      go_region_law (first | (go_simp; go_at_call 79; refine (HIS.out _).mono ?_; rintro e w4 ⟨rfl, hb⟩; have HB4 := Lib.hid hb; have HR4 := Lib.hid (HR3.out.later hb); have hc4 := HR4.out.cells.cell 3; simp only [rdCells] at hc4; simp at hc4; have HR5 := Lib.hid (HR4.out.later ((Below.refl _ w4).alloc (Nat.le_refl _) (.cells #[.string (bs (low X))] 9))); have hc5 := HR5.out.cells.cell 3; simp only [rdCells] at hc5; simp at hc5; clear hb) | (refine step_text rfl _ _ rfl (r + 1) v _ _ (low X) rfl HR5.out.own (by rw [World.size_alloc]; have := HR4.out.lt; omega) w4.heap.size rfl (Blk.new _ _ _) HRL.out ?_; intro v6 W6 hown hgr; obtain ⟨g6, k6, rfl⟩ := own_there hown (Nat.succ_pos _); obtain ⟨hb6, hr7, hk7⟩ := HR5.out.grow hown hgr; have hc6 := hb6.cell 3; have hf6 := hb6.frozen 3; simp only [rdCells] at hc6; simp at hc6; have HR7 := Lib.hid hr7; have HK7 := Lib.hid hk7; clear hb6 hr7 hk7 hown hgr))
      all_goals go_wp2
      all_goals exact HO.out _ p _ HR7.out ((((HK0.out.drewN 1).of_low HB4.out (Nat.le_of_lt HR3.out.lt)).of_low ((Below.refl _ w4).alloc (Nat.le_refl _) _) (Nat.le_of_lt HR4.out.lt)).trans HK7.out)
end Go.Proofs.YtjgadocojdieeaaGreatDoor
