/-
  The contract of frankingref01.Lex: its tokens, or its first error and that error's place, are what lexP tells, for every text. No conditions.
-/
import Derived.Test.YtkidhffloaonaaaRefK
import Derived.Test.YtkidhffloaonaaaLow
import Derived.Deep.DeepCutAuto
import Derived.Deep.LoopGhost
namespace Go.Proofs.Ytkidhffloaonaaa
open Go.RowKit

structure RefSt (W0 wr : World) (tk : List Tk) (v : Value) : Prop where
  own : wr.ownsRow W0.heap.size 30 7 v tk.length (toksCells tk)
  below : Below W0.heap.size W0 wr
theorem RefSt.later {W0 wr wx : World} {tk : List Tk} {v : Value} (h : RefSt W0 wr tk v) (hb : Below wr.heap.size wr wx) : RefSt W0 wx tk v := ⟨ownsRow_kept h.own hb, h.below.trans (hb.mono h.below.size)⟩
theorem RefSt.put {W0 wr w1 : World} {tk : List Tk} {t : Tk} {v v1 : Value} (h : RefSt W0 wr tk v)
    (hown : w1.ownsRow W0.heap.size 30 7 v1 (tk.length + 1) (toksCells tk ++ tokCells t)) (hgrow : wr.grownBy w1 v.ownBlock) : RefSt W0 w1 (tk ++ [t]) v1 :=
  ⟨by rw [toksCells_snoc, List.length_append]; exact hown, h.below.grown hgrow h.below.size (fun g hg => (h.own.lt g hg).1)⟩
theorem RefSt.drewN {W0 wr : World} {tk : List Tk} {v : Value} (h : RefSt W0 wr tk v) (m : Nat) : RefSt W0 (wr.drewN m) tk v := h.later (below_drewN (Below.refl _ _) m)

theorem new_at1 (w : World) (o : Obj) (cs : Array Value) (t : TypeId) : ((w.alloc o).alloc (.cells cs t)).heap[w.heap.size + 1]? = some (.cells cs t (0, 0)) := by
  have h : Blk ((w.alloc o).alloc (.cells cs t)) (w.heap.size + 1) t cs := Blk.new_at _ _ _ _ (by simp)
  exact h

theorem pairsCells_at : ∀ (ps : List (Nat × Nat)) (k : Nat) (p : Nat × Nat), ps[k]? = some p → (pairsCells ps)[k * 2]? = some (.int .i64 p.1) ∧ (pairsCells ps)[k * 2 + 1]? = some (.int .i64 p.2) := by
  intro ps
  induction ps with
  | nil => intro k p h; simp at h
  | cons a r ih =>
    intro k p h
    have e : pairsCells (a :: r) = .int .i64 a.1 :: .int .i64 a.2 :: pairsCells r := by simp [pairsCells, pairCells]
    rw [e]
    cases k with
    | zero =>
      have : a = p := by simpa using h
      subst this
      exact ⟨rfl, rfl⟩
    | succ k =>
      have := ih k p (by simpa using h)
      rw [show (k + 1) * 2 = k * 2 + 1 + 1 from by omega]
      simpa using this
theorem lines_cells {w W0 : World} {ps : List (Nat × Nat)} {g cap : Nat} (h : LinesOut w W0 ps (.slice (some ⟨g, 0, none⟩) ps.length cap)) : g < W0.heap.size ∧ ∀ k p, ps[k]? = some p → W0.cell? ⟨g, k * 2, none⟩ = some (.int .i64 p.1) ∧ W0.cell? ⟨g, k * 2 + 1, none⟩ = some (.int .i64 p.2) := by
  refine ⟨(h.1.lt g rfl).2, fun k p hp => ?_⟩
  obtain ⟨h1, h2⟩ := pairsCells_at ps k p hp
  have key : ∀ j u, (pairsCells ps)[j]? = some u → W0.cell? ⟨g, j, none⟩ = some u := fun j u hu => by
    have := h.1.cells (g := g) rfl j u hu
    have hadd : (⟨g, 0, none⟩ : Addr).add j = ⟨g, j, none⟩ := by unfold Addr.add; split <;> simp_all
    rw [hadd] at this
    exact this
  exact ⟨key _ _ h1, key _ _ h2⟩

set_option maxRecDepth 100000 in
set_option maxHeartbeats 8000000 in
theorem refLex_any (s : ByteArray) (w : World) :
    Calls Try.prog 10 #[.string s] w fun e w' => Handed w w' (lexP s.data.toList) e := by
  have HLEN := Lib.hid (listLen s)
  have HL := lexP.eq_1 s.data.toList
  rw [HLEN.out] at HL
  by_cases hlong : 65536 < s.size
  · generalize lexP s.data.toList = R at *
    rw [if_pos hlong] at HL
    have HR := Lib.hid HL
    clear HL
    go_enter Try.func10, Try.ntmps10
    go_wp2
    go_ret3
    refine ⟨.slice none 0 0, by rw [HR.out]; rfl, ?_, Below.refl _ _⟩
    rw [HR.out]
    exact World.ownsRow_nil _ _ _ _
  · rw [if_neg hlong] at HL
    have hs : s.size ≤ 65536 := by omega
    have HLI := Lib.hid (fun W => refLines_any s hs W)
    have HLP : Hid (linesP s.data.toList = linesF s.data.toList (s.size + 1) 0) := by
      show _ = _
      rw [linesP, HLEN.out]
    generalize lexP s.data.toList = R at *
    generalize linesP s.data.toList = ps at *
    have HR0 := Lib.hid HL
    clear HL hlong
    obtain ⟨i0, hi0, hz0, hz1, hz2⟩ := info_parts Try.infoTok
    go_enter Try.func10, Try.ntmps10
    go_wp2_with fail
    refine (HLI.out _).mono ?_
    rintro e W0 ⟨lv, rfl, hout, hpl⟩
    clear HLI
    have hB0 := hout.2
    rcases hout.1.2 with ⟨rfl, h0⟩ | ⟨g, cap, cur, rfl, _⟩
    · have HE : Hid (R = ([], 0, 0)) := by
        show R = _
        have hp : linesF s.data.toList (s.size + 1) 0 = [] := by
          rw [← HLP.out]
          exact List.eq_nil_of_length_eq_zero h0
        have := lines_done s.data.toList (s.size + 1) 0 (by rw [HLEN.out]; omega) hp
        rw [HR0.out, lexF_end this]
        rfl
      clear HR0 HLP hout
      go_wp2
      go_loopw [5, 6, 8] (fun v o i wr => v = .slice none 0 0 ∧ o = .bool false ∧ i = .int .i64 0 ∧ wr = W0) (fun _ _ _ _ => 0)
      case atStart => exact ⟨rfl, rfl, rfl, rfl⟩
      case round =>
        obtain ⟨rfl, rfl, rfl, rfl⟩ := hrel
        go_wp2
        go_ret3
        refine ⟨.slice none 0 0, by rw [HE.out]; rfl, ?_, hB0⟩
        rw [HE.out]
        exact World.ownsRow_nil _ _ _ _
    · obtain ⟨hg, hcells⟩ := lines_cells hout
      have HCE := Lib.hid hcells
      generalize hn : ps.length = n at *
      have HN := Lib.hid hn
      clear hcells hout hn
      go_wp2
      go_loopg [5, 6, 8] n (fun gk v o i wr => ∃ (j k f : Nat) (tk : List Tk) (b : Bool) (vv : Value), vv = v ∧ o = .bool b ∧ i = .int .i64 j ∧ j ≤ n ∧ gk = n - j ∧ k ≤ s.size ∧ RefSt W0 wr tk vv ∧ tk.length ≤ 2 * k ∧ s.size < f + k ∧ Hid (R = lexF s.data.toList f k tk b) ∧ Hid (ps.drop j = linesF s.data.toList f k))
      case atStart => exact ⟨0, 0, s.size + 1, [], false, _, rfl, rfl, rfl, Nat.zero_le _, rfl, Nat.zero_le _, ⟨World.ownsRow_nil _ _ _ _, Below.refl _ _⟩, by simp, by omega, HR0, HLP⟩
      case round =>
        clear HR0 HLP
        obtain ⟨j, k, f, tk, b, vv, rfl, rfl, rfl, hj, hgk, hk, hst, htk, hfk, HR, HPS⟩ := hrel
        by_cases hlt : j < n
        · obtain ⟨p, hp⟩ : ∃ p, ps[j]? = some p := ⟨_, List.getElem?_eq_getElem (by rw [HN.out]; exact hlt)⟩
          have hdr : ps.drop j = p :: ps.drop (j + 1) := by
            obtain ⟨h1, h2⟩ := List.getElem?_eq_some_iff.1 hp
            rw [List.drop_eq_getElem_cons h1, h2]
          obtain ⟨f, rfl, hkl, rfl, hnx⟩ := lines_next _ _ _ _ _ (hdr.symm.trans HPS.out)
          obtain ⟨c0, c1⟩ := HCE.out j _ hp
          have hb0 := hst.below.cell (p := ⟨g, j * 2, none⟩) hg
          have hb1 := hst.below.cell (p := ⟨g, j * 2 + 1, none⟩) hg
          rw [c0] at hb0
          rw [c1] at hb1
          have hcb := cutP_bd s.data.toList k hkl
          have HBY := Lib.hid (fun p => cut_byte s.data.toList k p)
          have HPA := Lib.hid (fun p => cut_part s.data.toList k p)
          have HTA := Lib.hid (cut_take s.data.toList k)
          have HSTEP := Lib.hid (fun tk' => line_step s.data.toList f k tk tk' b R hkl (by rw [HLEN.out]; omega) HR.out)
          have HIDLE := Lib.hid (line_idle s.data.toList f k tk b hkl)
          have HWRONG := Lib.hid (line_wrong s.data.toList f k tk b hkl)
          have HNX := Lib.hid hnx
          rw [HLEN.out] at hcb hkl
          generalize hc : cutP s.data.toList k = c at *
          obtain ⟨ln, nx⟩ := c
          clear hc HPS hdr hp hnx c0 c1
          simp only at hb0 hb1 hcb HBY HPA HTA HSTEP HIDLE HWRONG HNX
          generalize hm : ln.length = m at *
          have HM := Lib.hid hm
          clear hm
          have hlt' : (j : Int) < n := by omega
          have h0' : (0 : Int) ≤ j := by omega
          have hke : k + m ≤ s.size := by omega
          have hx : (s.extract k (k + m)).data.toList = ln := by rw [extract_list, Nat.add_sub_cancel_left, HTA.out]
          have HEM := Lib.hid (fun W => refEmpty_any (s.extract k (k + m)) (by simp; omega) W)
          rw [hx] at HEM
          clear hx
          go_wp2
          go_quiet (fail)
          have hst1 := fun q => hst.drewN q
          clear hb0 hb1
          cases hid : idleB ln with
          | true =>
            rw [hid] at HEM
            have HR' : Hid (R = lexF s.data.toList f nx tk b) := by
              show R = _
              rw [HR.out, HIDLE.out hid]
            clear HIDLE HWRONG HSTEP hid
            go_wp2_with (go_at_call 24; refine (HEM.out _).mono ?_; rintro e w' ⟨rfl, rfl⟩)
            go_roundg (n - (j + 1))
            case measure => omega
            case rel => exact ⟨j + 1, nx, f, tk, b, _, rfl, rfl, by go_num, by omega, rfl, by omega, hst1 _, by omega, by omega, HR', HNX⟩
          | false =>
            rw [hid] at HEM
            have hm1 : 1 ≤ m := by
              have := pos_of_ne (idle_ne hid)
              rw [HM.out] at this
              exact this
            have HB0 := Lib.hid ((byteZ_at s k hkl).trans (HBY.out 0 hm1))
            have HLT := Lib.hid (fun W => refLetter_any ((s[k]'hkl).toNat : Int) W)
            have HBL := Lib.hid (fun W => refBlank_any ((s[k]'hkl).toNat : Int) W)
            have HLA := Lib.hid (line_letter ln k tk b hid)
            have HLB := Lib.hid (line_blank ln k tk hid)
            have HLW := Lib.hid (HWRONG.out hid)
            clear HWRONG HIDLE hid
            go_upto_if 44 with (first | (go_at_call 24; refine (HEM.out _).mono ?_; rintro e w' ⟨rfl, rfl⟩) | (go_at_call 25; refine (HLT.out _).mono ?_; rintro e w' ⟨rfl, rfl⟩))
            have hsz : W0.heap.size ≤ wr.heap.size := hst.below.size
            go_cut [5, 6] (fun v o wx => ∃ (tk' : List Tk) (vv2 : Value), vv2 = v ∧ o = .bool true ∧ RefSt W0 wx tk' vv2 ∧ tk'.length ≤ tk.length + 1 ∧ Hid (lineP ln k tk b = ⟨(tokensP ln k tk').1, true, (tokensP ln k tk').2.1, (tokensP ln k tk').2.2⟩))
            case first =>
              cases hlet : letterZ ((s[k]'hkl).toNat : Int) with
              | true =>
                have HL1 := HLA.out (by rw [← HB0.out]; exact hlet)
                cases b with
                | true =>
                  rw [if_pos rfl] at HL1
                  have HL2 : Hid (_ = _) := HL1
                  clear HLA HLB HLW HL1 hlet
                  go_wp2_with (at_builtin; refine wpList_append_lies _ rfl _ _ 23 rfl W0.heap.size 30 i0 _ 7 56 Try.underlying23 hi0 hz0 hz1 hz2 rfl (by decide) vv tk.length (toksCells tk) (by rfl) (((hst1 _).later ((Below.refl _ _).alloc (Nat.le_refl _) _)).own) ⟨wr.heap.size, 0, none⟩ 1 1 (tokCells (endTok k)) (by rfl) (by rfl) (World.news_of_block (cs := (tokCells (endTok k)).toArray) (t := 30) (fr := (0, 0)) (heap_alloc_new (wr.drewN _) _)) ?c1 (by omega) ?c2 ?c3 ?c4 (wr.heap.size + 1) (by simp) ?_)
                  case c1 => simp [tokCells, endTok, Value.oneCell']
                  case c2 => unfold maxLen; omega
                  case c3 => omega
                  case c4 => simp; omega
                  intro gg cp w1 hown hgrow _ _
                  have hput := ((hst1 _).later ((Below.refl _ _).alloc (Nat.le_refl _) _)).put hown hgrow
                  clear hown hgrow
                  go_wp2
                  go_meet
                  exact ⟨tk ++ [endTok k], _, rfl, rfl, hput, by simp, HL2⟩
                | false =>
                  rw [if_neg (by simp)] at HL1
                  have HL2 : Hid (_ = _) := HL1
                  clear HLA HLB HLW HL1 hlet
                  go_wp2
                  go_meet
                  exact ⟨tk, _, rfl, rfl, hst1 _, by omega, HL2⟩
              | false =>
                rw [HB0.out] at hlet
                cases b with
                | true =>
                  cases hbl : blankZ ((s[k]'hkl).toNat : Int) with
                  | true =>
                    rw [hbl] at HBL
                    rw [HB0.out] at hbl
                    have HL2 : Hid (_ = _) := HLB.out hlet hbl
                    clear HLA HLB HLW hlet hbl
                    go_wp2_with (go_at_call 26; refine (HBL.out _).mono ?_; rintro e w' ⟨rfl, rfl⟩)
                    go_meet
                    exact ⟨tk, _, rfl, rfl, hst1 _, by omega, HL2⟩
                  | false =>
                    rw [hbl] at HBL
                    rw [HB0.out] at hbl
                    have HE : Hid (R = _) := HR.out.trans (HLW.out hlet (by rw [hbl]; rfl))
                    clear HLA HLB HLW hlet hbl
                    go_wp2_with (go_at_call 26; refine (HBL.out _).mono ?_; rintro e w' ⟨rfl, rfl⟩)
                    go_ret3
                    refine ⟨.slice none 0 0, by rw [HE.out]; rfl, ?_, hB0.trans ((hst1 _).below.mono hB0.size)⟩
                    rw [HE.out]
                    exact World.ownsRow_nil _ _ _ _
                | false =>
                  have HE : Hid (R = _) := HR.out.trans (HLW.out hlet (by simp))
                  clear HLA HLB HLW hlet
                  go_wp2
                  go_ret3
                  refine ⟨.slice none 0 0, by rw [HE.out]; rfl, ?_, hB0.trans ((hst1 _).below.mono hB0.size)⟩
                  rw [HE.out]
                  exact World.ownsRow_nil _ _ _ _
            case rest =>
              obtain ⟨tk', vv2, rfl, rfl, hs2, htk2, HLN⟩ := hcut
              obtain ⟨herr, hok⟩ := HSTEP.out tk' HLN.out
              have HERR := Lib.hid herr
              have HOK := Lib.hid hok
              have HT0 : Hid (tokensP ln k tk' = tokensF ln k (m + 1) 0 tk') := by
                show _ = _
                rw [tokensP, HM.out]
              generalize tokensP ln k tk' = T at *
              have htk3 : tk'.length ≤ 2 * k + 1 := by omega
              clear herr hok HLA HLB HLW HLN HSTEP HEM HLT HBL HB0 hst hst1 htk htk2 HR hsz
              go_wp2
              go_loopg [5, 11] m (fun gi v a wi => ∃ (p f2 : Nat) (tkk : List Tk) (v3 : Value), v3 = v ∧ a = .int .i64 ((k : Int) + p) ∧ p ≤ m ∧ gi = m - p ∧ RefSt W0 wi tkk v3 ∧ tkk.length ≤ tk'.length + p ∧ m < f2 + p ∧ Hid (T = tokensF ln k f2 p tkk))
              case atStart => exact ⟨0, m + 1, tk', _, rfl, by simp, Nat.zero_le _, rfl, hs2, Nat.le_refl _, by omega, HT0⟩
              case round =>
                clear HT0 hs2
                obtain ⟨p, f2, tkk, v3, rfl, rfl, hpm, hgi, hs3, htkk, hf2, HT⟩ := hrel
                have hfin : T = (tkk, 0, 0) → Hid (R = lexF s.data.toList f nx tkk true) := by
                  intro h
                  have := HOK.out (by rw [h])
                  rw [h] at this
                  exact this
                by_cases hpl2 : p < m
                · have hkp : k + p < s.size := by omega
                  have hnn : ((k : Int) + p).toNat = k + p := by omega
                  have HBP := Lib.hid ((byteZ_at s (k + p) hkp).trans (HBY.out p hpl2))
                  have hplen : p < ln.length := by rw [HM.out]; exact hpl2
                  have HBK := Lib.hid (fun W => refBlank_any ((s[k + p]'hkp).toNat : Int) W)
                  by_cases h59 : ((s[k + p]'hkp).toNat : Int) = 59
                  · have HF := hfin (HT.out.trans (tok_semi ln k f2 p tkk hplen (by rw [← HBP.out]; exact h59)))
                    have h59b : (((s[k + p]'hkp).toNat : Int) != 59) = false := by rw [bne_eq_false_iff_eq]; exact h59
                    clear hfin HBK HT HBP hplen
                    go_wp2
                    go_roundg (n - (j + 1))
                    case measure => omega
                    case rel => exact ⟨j + 1, nx, f, tkk, true, _, rfl, rfl, by go_num, by omega, rfl, by omega, hs3, by omega, by omega, HF, HNX⟩
                  · have h59b : (((s[k + p]'hkp).toNat : Int) != 59) = true := by rw [bne_iff_ne]; exact h59
                    have h59c : (((s[k + p]'hkp).toNat : Int) == 59) = false := by rw [beq_eq_false_iff_ne]; exact h59
                    cases hbl : blankZ ((s[k + p]'hkp).toNat : Int) with
                    | true =>
                      rw [hbl] at HBK
                      have HT' : Hid (T = tokensF ln k f2 (p + 1) tkk) := by
                        show T = _
                        rw [HT.out]
                        exact tok_blank ln k f2 f2 p tkk hplen (by rw [← HBP.out]; exact hbl) (by rw [HM.out]; exact hf2) (by rw [HM.out]; omega)
                      clear hfin HT HBP hplen hbl h59
                      go_wp2_with (go_at_call 26; refine (HBK.out _).mono ?_; rintro e w' ⟨rfl, rfl⟩)
                      go_roundg (m - (p + 1))
                      case measure => omega
                      case rel => exact ⟨p + 1, f2, tkk, _, rfl, by go_num, by omega, rfl, hs3, by omega, by omega, HT'⟩
                    | false =>
                      rw [hbl] at HBK
                      have hxl : (s.extract 0 (k + m)).data.toList = s.data.toList.take (k + m) := by
                        rw [extract_list]
                        simp
                      have hbx : byteZ (s.extract 0 (k + m)).data.toList (k + p) = ((s[k + p]'hkp).toNat : Int) := by
                        have h1 := byteZ_drop (s.extract 0 (k + m)).data.toList (k + p) 0
                        rw [hxl, HPA.out p, byteZ_drop] at h1
                        rw [HBP.out, hxl]
                        exact h1.symm
                      have HNE := Lib.hid (fun W => refNext_any (s.extract 0 (k + m)) (k + p) (by simp; omega) (by simp; omega) (by rw [hbx]; exact hbl) (by rw [hbx]; exact h59) W)
                      rw [hxl, HPA.out p] at HNE
                      have HGO := Lib.hid (fun f3 he => tok_next ln k f3 p tkk hplen (by rw [← HBP.out]; exact hbl) (by rw [← HBP.out]; exact h59) he)
                      have HER := Lib.hid (fun he => tokensF_err (toks := tkk) (start := k) (f := f2) (show ln.length < f2 + p from by rw [HM.out]; exact hf2) hplen he)
                      have hfit := fits_read _ (drop_ne hplen)
                      rw [Fits, List.length_drop, HM.out] at hfit
                      generalize readP (ln.drop p) = P at *
                      clear hfin HBP hplen hbl h59 hxl hbx
                      by_cases he : P.err = 0
                      · obtain ⟨f3, rfl⟩ : ∃ f3, f2 = f3 + 1 := ⟨f2 - 1, by omega⟩
                        have HT' : Hid (T = _) := HT.out.trans (HGO.out f3 he)
                        have hsz := hfit.2.1 he
                        simp only [refV, tokV, if_pos he] at HNE
                        rw [he] at HNE
                        clear hfit HER HGO HT he
                        go_wp2_with (first | (go_at_call 26; refine (HBK.out _).mono ?_; rintro e w' ⟨rfl, rfl⟩) | (go_at_call 27; refine (HNE.out _).mono ?_; rintro e w1 ⟨rfl, hb1⟩) | (at_builtin; refine wpList_append_lies _ rfl _ _ 23 rfl W0.heap.size 30 i0 _ 7 56 Try.underlying23 hi0 hz0 hz1 hz2 rfl (by decide) v3 tkk.length (toksCells tkk) (by rfl) (((hs3.later hb1).later (((Below.refl _ _).alloc (Nat.le_refl _) _).alloc (by simp) _)).own) ⟨w1.heap.size + 1, 0, none⟩ 1 1 (tokCells { P.tok with place := (k : Int) + p }) (by rfl) (by rfl) (World.news_of_block (cs := (tokCells { P.tok with place := (k : Int) + p }).toArray) (t := 30) (fr := (0, 0)) (new_at1 w1 _ _ _)) ?c1 (by omega) ?c2 ?c3 ?c4 (w1.heap.size + 2) (by simp) ?_))
                        case c1 => simp [tokCells, Value.oneCell']
                        case c2 => unfold maxLen; omega
                        case c3 => omega
                        case c4 => have := hs3.below.size; have := hb1.size; simp; omega
                        intro gg cp w2 hown hgrow _ _
                        have hput := ((hs3.later hb1).later (((Below.refl _ _).alloc (Nat.le_refl _) _).alloc (by simp) _)).put hown hgrow
                        clear hown hgrow
                        go_wp2
                        go_roundg (m - (p + P.size))
                        case measure => omega
                        case rel => exact ⟨p + P.size, f3, tkk ++ [{ P.tok with place := (k : Int) + p }], _, rfl, by go_num, by omega, rfl, hput, by simp; omega, by omega, HT'⟩
                      · have HF : Hid (R = _) := HERR.out (by rw [HT.out, HER.out he]; exact he)
                        simp only [refV, tokV, if_neg he] at HNE
                        have heb : ((P.err : Int) != 0) = true := by rw [bne_iff_ne]; omega
                        have HE' : Hid (P.err ≠ 0) := he
                        clear hfit HGO he
                        go_wp2_with (first | (go_at_call 26; refine (HBK.out _).mono ?_; rintro e w' ⟨rfl, rfl⟩) | (go_at_call 27; refine (HNE.out _).mono ?_; rintro e w1 ⟨rfl, hb1⟩))
                        go_ret3
                        refine ⟨.slice none 0 0, by rw [HF.out, HT.out, HER.out HE'.out]; simp, ?_, hB0.trans (((hs3.later hb1).later ((Below.refl _ _).alloc (Nat.le_refl _) _)).below.mono hB0.size)⟩
                        rw [HF.out]
                        exact World.ownsRow_nil _ _ _ _
                · have HF := hfin (HT.out.trans (tokensF_end (by rw [HM.out]; omega)))
                  have hpe : p = m := by omega
                  subst hpe
                  clear hfin HT
                  go_wp2
                  go_roundg (n - (j + 1))
                  case measure => omega
                  case rel => exact ⟨j + 1, nx, f, tkk, true, _, rfl, rfl, by go_num, by omega, rfl, by omega, hs3, by omega, by omega, HF, HNX⟩
        · obtain rfl : j = n := by omega
          have hdone := lines_done s.data.toList f k (by rw [HLEN.out]; exact hfk) (by rw [← HPS.out]; exact List.drop_eq_nil_of_le (by rw [HN.out]; exact Nat.le_refl _))
          have HR' : Hid (R = (closed s.data.toList tk b, 0, 0)) := by
            show R = _
            rw [HR.out, lexF_end hdone]
          clear HPS HR hdone
          cases b with
          | true =>
            go_wp2_with (at_builtin; refine wpList_append_lies _ rfl _ _ 23 rfl W0.heap.size 30 i0 _ 7 56 Try.underlying23 hi0 hz0 hz1 hz2 rfl (by decide) vv tk.length (toksCells tk) (by rfl) ((hst.later ((Below.refl _ _).alloc (Nat.le_refl _) _)).own) ⟨wr.heap.size, 0, none⟩ 1 1 (tokCells (endTok s.size)) (by rfl) (by rfl) (World.news_of_block (cs := (tokCells (endTok s.size)).toArray) (t := 30) (fr := (0, 0)) (heap_alloc_new wr _)) ?c1 (by omega) ?c2 ?c3 ?c4 (wr.heap.size + 1) (by simp) ?_)
            case c1 => simp [tokCells, endTok, Value.oneCell']
            case c2 => unfold maxLen; omega
            case c3 => omega
            case c4 => have := hst.below.size; simp; omega
            intro gg cp w1 hown hgrow _ _
            have hput := (hst.later ((Below.refl _ _).alloc (Nat.le_refl _) _)).put hown hgrow
            clear hown hgrow
            go_wp2
            go_ret3
            refine ⟨_, by rw [HR'.out]; rfl, ?_, hB0.trans (hput.below.mono hB0.size)⟩
            rw [HR'.out]
            show World.ownsRow _ _ _ _ _ (closed _ tk true).length (toksCells (closed _ tk true))
            rw [closed, if_pos rfl, HLEN.out]
            exact ownsRow_mono hput.own hB0.size
          | false =>
            go_wp2
            go_ret3
            refine ⟨_, by rw [HR'.out]; rfl, ?_, hB0.trans (hst.below.mono hB0.size)⟩
            rw [HR'.out]
            exact ownsRow_mono hst.own hB0.size
end Go.Proofs.Ytkidhffloaonaaa
