/-
  The contract of frankingref10.Right. Conditions: the table lies in memory.
-/
import Derived.Test.YtkgfjapflpjdbaaTrD
namespace Go.Proofs.Ytkgfjapflpjdbaa
open Go.RowKit

theorem maxP_lt (l : List Int) (n : Int) (h : 0 < l.length) : maxP l < n ↔ ∀ z ∈ l, z < n := by
  have hf : ∀ (r : List Int) (a : Int), r.foldl max a < n ↔ a < n ∧ ∀ z ∈ r, z < n := by
    intro r
    induction r with
    | nil => intro a; simp
    | cons x r ih =>
      intro a
      rw [List.foldl_cons, ih]
      constructor
      · rintro ⟨h1, h2⟩
        exact ⟨by omega, fun z hz => (List.mem_cons.1 hz).elim (fun e => by subst e; omega) (h2 z)⟩
      · rintro ⟨h1, h2⟩
        have := h2 x (List.mem_cons_self ..)
        exact ⟨by omega, fun z hz => h2 z (List.mem_cons_of_mem _ hz)⟩
  match l, h with
  | a :: r, _ =>
    show r.foldl max a < n ↔ _
    rw [hf]
    constructor
    · rintro ⟨h1, h2⟩ z hz
      exact (List.mem_cons.1 hz).elim (fun e => by subst e; exact h1) (h2 z)
    · intro hh
      exact ⟨hh a (List.mem_cons_self ..), fun z hz => hh z (List.mem_cons_of_mem _ hz)⟩
/-- some names are names, and no two of them the same -/
def namesOk (l : List (List UInt8)) : Prop := (∀ x ∈ l, nameB x = true) ∧ l.Nodup
theorem namesOk_next {l : List (List UInt8)} {k : Nat} (hk : k < l.length) (h : namesOk (l.take k)) (h1 : nameB l[k] = true) (h2 : ∀ j, (hj : j < l.length) → j < k → l[j] ≠ l[k]) : namesOk (l.take (k + 1)) := by
  rw [List.take_succ_eq_append_getElem hk]
  refine ⟨fun x hx => ?_, ?_⟩
  · rcases List.mem_append.1 hx with hx | hx
    · exact h.1 x hx
    · rw [List.mem_singleton.1 hx]; exact h1
  · rw [List.nodup_append]
    refine ⟨h.2, by simp, fun a ha b hb => ?_⟩
    rw [List.mem_singleton.1 hb]
    obtain ⟨j, hj, rfl⟩ := List.getElem_of_mem ha
    rw [List.length_take] at hj
    rw [List.getElem_take]
    exact h2 j (by omega) (by omega)
theorem namesB_iff (l : List (List UInt8)) : namesB l = true ↔ 1 ≤ l.length ∧ l.length ≤ 200 ∧ namesOk l := by
  unfold namesB namesOk
  simp only [Bool.and_eq_true, decide_eq_true_eq, List.all_eq_true]
theorem namesB_no1 {l : List (List UInt8)} {k : Nat} (hk : k < l.length) (h : nameB l[k] = false) : namesB l = false := by
  rw [← Bool.not_eq_true, namesB_iff]
  rintro ⟨_, _, h1, _⟩
  have := h1 _ (List.getElem_mem hk)
  rw [h] at this
  cases this
theorem namesB_no2 {l : List (List UInt8)} {k j : Nat} (hk : k < l.length) (hj : j < l.length) (hjk : j < k) (h : l[j] = l[k]) : namesB l = false := by
  rw [← Bool.not_eq_true, namesB_iff]
  rintro ⟨_, _, _, h1⟩
  have := List.pairwise_iff_getElem.1 h1 j k hj hk hjk
  exact this h
/-- a table's own box -/
structure TiW (w W : World) (t : Tab) (p : Lie) : Prop where
  tab : TabIn W w.heap.size t p
  low : Below w.heap.size w W
theorem TiW.later {w W W2 : World} {t : Tab} {p : Lie} (h : TiW w W t p) (hb : Below W.heap.size W W2) : TiW w W2 t p := ⟨h.tab.below hb, low_trans h.low hb⟩
theorem TiW.drewN {w W : World} {t : Tab} {p : Lie} (h : TiW w W t p) (n : Nat) : TiW w (W.drewN n) t p := h.later (below_drewN (Below.refl _ _) n)
theorem TiW.start {w : World} {t : Tab} {p : Lie} (h : TabAt w t p) : TiW w (w.alloc (.cells (tabCells t p).toArray 30)) t p := ⟨TabIn.new h, (Below.refl _ _).alloc (Nat.le_refl _) _⟩
/-- what is read of a table's box -/
structure RdW (W : World) (B : Nat) (many dmany : Int) (an : Option Addr) (nl cn : Nat) (at_ : Option Addr) (tl ct : Nat) (ns : Option Addr) (nn cs : Nat) (X C : Array Value) : Prop where
  all : (LoadOp 30 (.pointer (some ⟨B, 0, none⟩))).run Try.prog W = .ok (.agg X) W
  cls : (LoadOp 24 (.pointer (some ⟨B, 0, none⟩))).run Try.prog W = .ok (.agg C) W
  many : W.cell? ⟨B, 256, none⟩ = some (.int .i64 many)
  dmany : W.cell? ⟨B, 257, none⟩ = some (.int .i64 dmany)
  next : W.cell? ⟨B, 258, none⟩ = some (.slice an nl cn)
  tags : W.cell? ⟨B, 259, none⟩ = some (.slice at_ tl ct)
  names : W.cell? ⟨B, 260, none⟩ = some (.slice ns nn cs)
attribute [local go_sem ↓] loadOp_C loadOp_T
set_option maxRecDepth 1000000 in
set_option maxHeartbeats 4000000 in
theorem rTabRight_any (t : Tab) (p : Lie) (X : Array Value) (hX : (tabCells t p).toArray = X) (w : World) (h : TabAt w t p) :
    Calls Try.prog 10 #[.agg X] w fun e w' => e = .returned (.bool (tabRightB t)) ∧ Below w.heap.size w w' := by
  have h0 := TiW.start h
  rw [hX] at h0
  have HW0 := Lib.hid h0
  obtain ⟨C, hC⟩ : ∃ C, (clCells t.of t.many).toArray = C := ⟨_, rfl⟩
  obtain ⟨an, cn, at_, ct, ns, cs⟩ := p
  have HRD : Hid (∀ W, TiW w W t ⟨an, cn, at_, ct, ns, cs⟩ → RdW W w.heap.size t.many t.dmany an t.next.length cn at_ t.tags.length ct ns t.names.length cs X C) := fun W hW => by
    have := hW.tab.read
    rw [hX, hC] at this
    exact ⟨this.all, this.cls, this.many, this.dmany, this.next, this.tags, this.names⟩
  have HCLS : Hid (∀ W, Calls Try.prog 23 #[.agg C] W fun e w' => e = .returned (.bool (clRightB t.of t.many)) ∧ Below W.heap.size W w') := fun W => by
    have := rClRight_any t.of t.many W h.of
    rw [hC] at this
    exact this
  have HDF : Hid (∀ W, TiW w W t ⟨an, cn, at_, ct, ns, cs⟩ → Calls Try.prog 24 #[.agg #[.int .i64 t.dmany, .slice an t.next.length cn, .slice at_ t.tags.length ct]] W fun e w' => e = .returned (.bool (dfRightB t.dmany t.next t.tags)) ∧ Below W.heap.size W w') := fun W hW => rDfRight_any _ _ _ _ _ _ _ W hW.tab.at_.next hW.tab.at_.tags
  have HNAT : Hid (∀ W, TiW w W t ⟨an, cn, at_, ct, ns, cs⟩ → TextsAt W ns t.names) := fun W hW => hW.tab.at_.names
  have HTAT : Hid (∀ W, TiW w W t ⟨an, cn, at_, ct, ns, cs⟩ → IntsAt W at_ t.tags) := fun W hW => hW.tab.at_.tags
  have HEA := Lib.hid h.each
  have hl1 := h.names.len
  have hl2 := h.tags.len
  unfold maxLen at hl1 hl2
  have HNB : Hid (namesB t.names = true ↔ 1 ≤ t.names.length ∧ t.names.length ≤ 200 ∧ namesOk t.names) := namesB_iff t.names
  have hRR : tabRightB t = (clRightB t.of t.many && (dfRightB t.dmany t.next t.tags && ((t.many == t.dmany) && (namesB t.names && decide (maxP t.tags < (t.names.length : Int)))))) := rfl
  have HDT : Hid (dfRightB t.dmany t.next t.tags = true → 0 < t.tags.length) := fun h => by
    unfold dfRightB at h
    simp only [Bool.and_eq_true, withinB_iff] at h
    omega
  have HN1 := Lib.hid (fun k => @namesB_no1 t.names k)
  have HN2 := Lib.hid (fun k j => @namesB_no2 t.names k j)
  have HNX := Lib.hid (fun k => @namesOk_next t.names k)
  have HMX := Lib.hid (fun n => maxP_lt t.tags n)
  obtain ⟨nn, hnn⟩ : ∃ n, t.names.length = n := ⟨_, rfl⟩
  obtain ⟨tl, htl⟩ : ∃ n, t.tags.length = n := ⟨_, rfl⟩
  obtain ⟨nl, hnl⟩ : ∃ n, t.next.length = n := ⟨_, rfl⟩
  rw [hnn] at HRD hl1 hRR HNB
  rw [htl] at HRD hl2 HDT HDF
  rw [hnl] at HRD HDF
  have HNN := Lib.hid hnn
  have HTL := Lib.hid htl
  clear hC hX h h0 hnn htl hnl
  generalize tabRightB t = R at *
  generalize clRightB t.of t.many = B1 at *
  generalize dfRightB t.dmany t.next t.tags = B2 at *
  have HRR := Lib.hid hRR
  clear hRR
  have r0 := HRD.out _ HW0.out
  have k1 := r0.cls
  have k2 := r0.dmany
  have k3 := r0.next
  have k4 := r0.tags
  clear r0
  cases B1 with
  | false =>
    go_enter Try.func10, Try.ntmps10
    go_wp2_with (go_at_call 23; refine (HCLS.out _).mono ?_; rintro e w1 ⟨rfl, hb1⟩; have HW1 := Lib.hid (HW0.out.later hb1); clear hb1)
    go_ret
    exact ⟨ret_bool (by rw [HRR.out]; rfl), HW1.out.low⟩
  | true =>
    cases B2 with
    | false =>
      go_enter Try.func10, Try.ntmps10
      go_wp2_with (first
        | (go_at_call 23; refine (HCLS.out _).mono ?_; rintro e w1 ⟨rfl, hb1⟩; have HW1 := Lib.hid (HW0.out.later hb1); have q2 := (HRD.out _ HW1.out).dmany; have q3 := (HRD.out _ HW1.out).next; have q4 := (HRD.out _ HW1.out).tags; clear hb1)
        | (go_at_call 24; refine (HDF.out _ HW1.out).mono ?_; rintro e w2 ⟨rfl, hb2⟩; have HW2 := Lib.hid (HW1.out.later hb2); clear hb2))
      go_ret
      exact ⟨ret_bool (by rw [HRR.out]; rfl), HW2.out.low⟩
    | true =>
      have htl0 := HDT.out rfl
      cases hmm : (t.many == t.dmany) with
      | false =>
        go_enter Try.func10, Try.ntmps10
        go_wp2_with (first
          | (go_at_call 23; refine (HCLS.out _).mono ?_; rintro e w1 ⟨rfl, hb1⟩; have HW1 := Lib.hid (HW0.out.later hb1); have q2 := (HRD.out _ HW1.out).dmany; have q3 := (HRD.out _ HW1.out).next; have q4 := (HRD.out _ HW1.out).tags; clear hb1)
          | (go_at_call 24; refine (HDF.out _ HW1.out).mono ?_; rintro e w2 ⟨rfl, hb2⟩; have HW2 := Lib.hid (HW1.out.later hb2); have s1 := (HRD.out _ HW2.out).many; have s2 := (HRD.out _ HW2.out).dmany; clear hb2))
        go_ret
        exact ⟨ret_bool (by rw [HRR.out, hmm]; rfl), HW2.out.low⟩
      | true =>
        have HR3 : Hid (R = (namesB t.names && decide (maxP t.tags < nn))) := by show _ = _; rw [HRR.out, hmm]; rfl
        clear HRR
        by_cases n1 : nn = 0
        · have HR4 : Hid (R = false) := by
            show _ = _
            rw [HR3.out, show namesB t.names = false from by rw [← Bool.not_eq_true, HNB.out]; omega]
            rfl
          subst n1
          clear HN1 HN2 HNX HNB HMX HR3 HNN
          go_enter Try.func10, Try.ntmps10
          go_wp2_with (first
            | (go_at_call 23; refine (HCLS.out _).mono ?_; rintro e w1 ⟨rfl, hb1⟩; have HW1 := Lib.hid (HW0.out.later hb1); have q2 := (HRD.out _ HW1.out).dmany; have q3 := (HRD.out _ HW1.out).next; have q4 := (HRD.out _ HW1.out).tags; clear hb1)
            | (go_at_call 24; refine (HDF.out _ HW1.out).mono ?_; rintro e w2 ⟨rfl, hb2⟩; have HW2 := Lib.hid (HW1.out.later hb2); have s1 := (HRD.out _ HW2.out).many; have s2 := (HRD.out _ HW2.out).dmany; have s3 := (HRD.out _ HW2.out).names; clear hb2))
          go_ret
          exact ⟨ret_bool HR4.out.symm, HW2.out.low⟩
        by_cases n2 : 200 < nn
        · have HR4 : Hid (R = false) := by
            show _ = _
            rw [HR3.out, show namesB t.names = false from by rw [← Bool.not_eq_true, HNB.out]; omega]
            rfl
          have n1' : ((nn : Int) == 0) = false := by simpa using (fun h => n1 (by omega) : ¬ (nn : Int) = 0)
          have n2' : (200 : Int) < (nn : Int) := by omega
          clear HN1 HN2 HNX HNB HMX
          go_enter Try.func10, Try.ntmps10
          go_wp2_with (first
            | (go_at_call 23; refine (HCLS.out _).mono ?_; rintro e w1 ⟨rfl, hb1⟩; have HW1 := Lib.hid (HW0.out.later hb1); have q2 := (HRD.out _ HW1.out).dmany; have q3 := (HRD.out _ HW1.out).next; have q4 := (HRD.out _ HW1.out).tags; clear hb1)
            | (go_at_call 24; refine (HDF.out _ HW1.out).mono ?_; rintro e w2 ⟨rfl, hb2⟩; have HW2 := Lib.hid (HW1.out.later hb2); have s1 := (HRD.out _ HW2.out).many; have s2 := (HRD.out _ HW2.out).dmany; have s3 := (HRD.out _ HW2.out).names; clear hb2))
          go_ret
          exact ⟨ret_bool HR4.out.symm, HW2.out.low⟩
        have n1' : ((nn : Int) == 0) = false := by simpa using (fun h => n1 (by omega) : ¬ (nn : Int) = 0)
        have n2' : ¬ (200 : Int) < (nn : Int) := by omega
        have HR4 : Hid (namesOk t.names → R = decide (maxP t.tags < (nn : Int))) := fun h => by
          rw [HR3.out, (HNB.out).2 ⟨by omega, by omega, h⟩]
          rfl
        have HR5 : Hid (namesB t.names = false → R = false) := fun h => by rw [HR3.out, h]; rfl
        clear HR3
        have HTL0 := Lib.hid htl0
        clear htl0
        go_enter Try.func10, Try.ntmps10
        go_wp2_with (first
          | (go_at_call 23; refine (HCLS.out _).mono ?_; rintro e w1 ⟨rfl, hb1⟩; have HW1 := Lib.hid (HW0.out.later hb1); have q2 := (HRD.out _ HW1.out).dmany; have q3 := (HRD.out _ HW1.out).next; have q4 := (HRD.out _ HW1.out).tags; clear hb1)
          | (go_at_call 24; refine (HDF.out _ HW1.out).mono ?_; rintro e w2 ⟨rfl, hb2⟩; have HW2 := Lib.hid (HW1.out.later hb2); have s1 := (HRD.out _ HW2.out).many; have s2 := (HRD.out _ HW2.out).dmany; have s3 := (HRD.out _ HW2.out).names; clear hb2))
        clear k1 k2 k3 k4 q2 q3 q4 s1 s2 s3
        go_loopw [3] (fun i wr => ∃ k : Nat, k ≤ nn ∧ i = .int .i64 k ∧ Hid (namesOk (t.names.take k)) ∧ Hid (TiW w wr t ⟨an, cn, at_, ct, ns, cs⟩)) (fun i _ => nn - (intOf i).toNat)
        case atStart => exact ⟨0, Nat.zero_le _, rfl, ⟨fun x hx => by simp at hx, by simp⟩, HW2⟩
        case round =>
          obtain ⟨k, hk, rfl, HK, HBR⟩ := hrel
          have s3 := (HRD.out _ HBR.out).names
          by_cases hlt : k < nn
          · have hkn : k < t.names.length := by rw [HNN.out]; exact hlt
            have hlt2 : (k : Int) < (nn : Int) := by omega
            obtain ⟨b, off, rfl, hc⟩ := (HNAT.out _ HBR.out).at_ hkn
            have hsz := HEA.out _ (List.getElem_mem hkn)
            have HNA : Hid (nameB t.names[k] = (decide (t.names[k].length ≤ 64) && namedB t.names[k])) := nameB_iff _
            have HNM : Hid (∀ W, Calls Try.prog 25 #[.string (bs t.names[k])] W fun e w' => e = .returned (.bool (namedB t.names[k])) ∧ W = w') := fun W => named_any (bs t.names[k]) hsz W
            have hss : (bs t.names[k]).size = t.names[k].length := rfl
            have HNO : Hid (nameB t.names[k] = false → R = false) := fun h => HR5.out (HN1.out k hkn h)
            generalize hS : bs t.names[k] = S at *
            by_cases h64 : 64 < t.names[k].length
            · have HE := Lib.hid (HNO.out (by rw [HNA.out, decide_eq_false (by omega)]; rfl))
              have h64' : 64 < S.size := by omega
              clear HNO HNA HNM HK hsz hss
              go_wp2
              go_ret
              exact ⟨ret_bool HE.out.symm, HBR.out.low⟩
            · have h64' : ¬ 64 < S.size := by omega
              cases hnm : namedB t.names[k] with
              | false =>
                have HE := Lib.hid (HNO.out (by rw [HNA.out, hnm, Bool.and_false]))
                rw [hnm] at HNM
                clear HNO HNA HK hsz hss h64 hnm
                go_wp2_with (go_at_call 25; refine (HNM.out _).mono ?_; rintro e w3 ⟨rfl, rfl⟩)
                go_ret
                exact ⟨ret_bool HE.out.symm, HBR.out.low⟩
              | true =>
                have HNB : Hid (nameB t.names[k] = true) := by show _ = _; rw [HNA.out, hnm, decide_eq_true (by omega)]; rfl
                rw [hnm] at HNM
                have HSS := Lib.hid hS
                have HWK := Lib.hid HBR.out
                clear HNO HNA hsz hss h64 hnm hS
                go_wp2_with (go_at_call 25; refine (HNM.out _).mono ?_; rintro e w3 ⟨rfl, rfl⟩)
                clear s3 hc h64'
                go_loopw [4] (fun i wr => ∃ q : Nat, q ≤ k ∧ i = .int .i64 q ∧ Hid (∀ j, (hj : j < t.names.length) → j < q → t.names[j] ≠ t.names[k]) ∧ Hid (TiW w wr t ⟨an, cn, at_, ct, some ⟨b, off, none⟩, cs⟩)) (fun i _ => k - (intOf i).toNat)
                case atStart => exact ⟨0, Nat.zero_le _, rfl, (fun j _ h => absurd h (by omega)), HWK⟩
                case round =>
                  clear HWK HBR
                  obtain ⟨q, hq, rfl, HJ, HBR⟩ := hrel
                  have s3 := (HRD.out _ HBR.out).names
                  by_cases hqt : q < k
                  · have hqn : q < t.names.length := by omega
                    have hqt2 : (q : Int) < (k : Int) := by omega
                    obtain ⟨b1, off1, hab1, hc1⟩ := (HNAT.out _ HBR.out).at_ hqn
                    obtain ⟨b2, off2, hab2, hc2⟩ := (HNAT.out _ HBR.out).at_ hkn
                    simp only [Option.some.injEq, Addr.mk.injEq, and_true] at hab1 hab2
                    obtain ⟨rfl, rfl⟩ := hab1
                    obtain ⟨rfl, rfl⟩ := hab2
                    rw [HSS.out] at hc2
                    have HEQ : Hid (t.names[q] = t.names[k] → R = false) := fun h => HR5.out (HN2.out k q hkn hqn hqt h)
                    have HNE : Hid (t.names[q] ≠ t.names[k] → ∀ j, (hj : j < t.names.length) → j < q + 1 → t.names[j] ≠ t.names[k]) := fun h j hj hjq => by
                      by_cases e : j = q
                      · subst e; exact h
                      · exact HJ.out j hj (by omega)
                    have hqs : (q : Int) < (nn : Int) := by omega
                    by_cases he : t.names[q] = t.names[k]
                    · have HE := Lib.hid (HEQ.out he)
                      have hb1 : bs t.names[q] = S := by rw [he]; exact HSS.out
                      rw [hb1] at hc1
                      clear HEQ HNE HJ he hb1
                      go_wp2
                      go_quiet (fail)
                      go_wp2
                      go_ret
                      exact ⟨ret_bool HE.out.symm, (HBR.out.drewN nq).low⟩
                    · have HE := Lib.hid (HNE.out he)
                      have hb1 : (bs t.names[q]).toList ≠ S.toList := fun e => he (by rw [← HSS.out] at e; simpa [bs, ByteArray.toList_eq] using e)
                      have hb2 : ((bs t.names[q]).toList == S.toList) = false := by simpa using hb1
                      generalize bs t.names[q] = S2 at *
                      clear HEQ HNE HJ he hb1
                      go_wp2
                      go_quiet (fail)
                      go_wp2
                      go_roundw
                      case rel => exact ⟨q + 1, by omega, by go_num, HE, HBR.out.drewN nq⟩
                      case measure => simp [intOf]; omega
                  · have hqk : q = k := by omega
                    have HE : Hid (namesOk (t.names.take (k + 1))) := HNX.out k hkn HK.out HNB.out (fun j hj hjk => HJ.out j hj (by omega))
                    have hqt2 : ¬ (q : Int) < (k : Int) := by omega
                    clear HJ hqk
                    go_wp2
                    go_roundw
                    case rel => first | exact ⟨k + 1, by omega, by go_num, HE, HBR⟩ | exact ⟨k + 1, by omega, by go_num, HE⟩
                    case measure => simp [intOf]; omega
          · have HR6 : Hid (R = decide (maxP t.tags < (nn : Int))) := by
              have := HK.out
              rw [List.take_of_length_le (by rw [HNN.out]; omega)] at this
              exact HR4.out this
            have hlt2 : ¬ (k : Int) < (nn : Int) := by omega
            have HWK := Lib.hid HBR.out
            clear HK
            go_wp2
            clear s3
            go_loopw [5] (fun i wr => ∃ q : Nat, q ≤ tl ∧ i = .int .i64 q ∧ Hid (∀ j, (hj : j < t.tags.length) → j < q → t.tags[j] < (nn : Int)) ∧ Hid (TiW w wr t ⟨an, cn, at_, ct, ns, cs⟩)) (fun i _ => tl - (intOf i).toNat)
            case atStart => exact ⟨0, Nat.zero_le _, rfl, (fun j _ h => absurd h (by omega)), HWK⟩
            case round =>
              clear HWK HBR hlt hlt2 hk
              obtain ⟨q, hq, rfl, HJ, HBR⟩ := hrel
              have s3 := (HRD.out _ HBR.out).names
              have s4 := (HRD.out _ HBR.out).tags
              by_cases hqt : q < tl
              · have hqn : q < t.tags.length := by rw [HTL.out]; exact hqt
                have hqt2 : (q : Int) < (tl : Int) := by omega
                obtain ⟨b1, off1, rfl, hc1⟩ := (HTAT.out _ HBR.out).at_ hqn
                have HEQ : Hid (¬ t.tags[q] < (nn : Int) → R = false) := fun h => by
                  rw [HR6.out, decide_eq_false]
                  rw [HMX.out _ (by rw [HTL.out]; exact HTL0.out)]
                  exact fun hh => h (hh _ (List.getElem_mem hqn))
                have HNE : Hid (t.tags[q] < (nn : Int) → ∀ j, (hj : j < t.tags.length) → j < q + 1 → t.tags[j] < (nn : Int)) := fun h j hj hjq => by
                  by_cases e : j = q
                  · subst e; exact h
                  · exact HJ.out j hj (by omega)
                generalize t.tags[q] = z at *
                by_cases he : z < (nn : Int)
                · have HE := Lib.hid (HNE.out he)
                  have he2 : ¬ (nn : Int) ≤ z := by omega
                  clear HEQ HNE HJ
                  go_wp2
                  go_quiet (fail)
                  go_wp2
                  go_roundw
                  case rel => exact ⟨q + 1, by omega, by go_num, HE, HBR.out.drewN nq⟩
                  case measure => simp [intOf]; omega
                · have HE := Lib.hid (HEQ.out he)
                  have he2 : (nn : Int) ≤ z := by omega
                  clear HEQ HNE HJ
                  go_wp2
                  go_quiet (fail)
                  go_wp2
                  go_ret
                  exact ⟨ret_bool HE.out.symm, (HBR.out.drewN nq).low⟩
              · have HE : Hid (R = true) := by
                  show _ = _
                  rw [HR6.out, decide_eq_true]
                  rw [HMX.out _ (by rw [HTL.out]; exact HTL0.out)]
                  intro z hz
                  obtain ⟨j, hj, rfl⟩ := List.getElem_of_mem hz
                  exact HJ.out j hj (by have := HTL.out; omega)
                have hqt2 : ¬ (q : Int) < (tl : Int) := by omega
                clear HJ
                go_wp2
                go_ret
                exact ⟨ret_bool HE.out.symm, HBR.out.low⟩
end Go.Proofs.Ytkgfjapflpjdbaa
