/-
  The contract of (*nfa.walk).come. Conditions: the machine's ways lead to states; at most 400 words of marks.
-/
import Derived.Test.YtdckjjkaoecgaaaDoorNwC
import Derived.Deep.DeepCutAuto
import Derived.Maps.AppendAt
import Derived.Deep.Onto
namespace Go.Proofs.YtdckjjkaoecgaaaDoor
open Go.RowKit Go.Shelf

/-- what come leaves -/
structure ComeOut (B tg b : Nat) (sa : Option Addr) (sn sc h x m : Nat) (ws wn : List Nat) (S : Nat → Prop) (st : List NS) (W W' : World) : Prop where
  walk : ∃ av wn', Wk W' B b sa sn sc h x m av ws wn' ∧ OwnX W' B tg av [] ∧ WordsOk wn' ∧ wn'.length = m ∧ (∀ q, bitAt wn' q = true ↔ bitAt wn q = true ∨ S q) ∧ Closed st (fun q => bitAt wn' q = true)
  low : Below B W W'
  keep : KeepW tg W W'
/-- all that a put leaves -/
theorem put_all {W0 W w6 : World} {B tg b : Nat} {sa : Option Addr} {sn sc h x m : Nat} {av : Value} {ws wn : List Nat} {q : Nat} {u uv : Value} {xs : List Nat} (k : Wk W B b sa sn sc h x m av ws wn) (hl : Below B W0 W ∧ KeepW tg W0 W ∧ B ≤ W.heap.size) (ho : OwnX W B tg uv xs) (hb : Blk w6 x 42 (wordsV (putW wn q))) (hw : w6 = (W.setCell ⟨x, q / 64, none⟩ u).drew) :
    Wk w6 B b sa sn sc h x m av ws (putW wn q) ∧ (Below B W0 w6 ∧ KeepW tg W0 w6 ∧ B ≤ w6.heap.size) ∧ OwnX w6 B tg uv xs := by
  subst hw
  have hl1 : Below B W0 (W.setCell ⟨x, q / 64, none⟩ u) := hl.1.setCell (p := ⟨x, q / 64, none⟩) k.ge.2.2 u
  have hs : (W.setCell ⟨x, q / 64, none⟩ u).drew.heap.size = W.heap.size := World.size_setCell _ _ _
  exact ⟨k.put q u hb, ⟨hl1.drew, (keepW_set hl.2.1 k.next (.inr rfl) (q / 64) u).drew, by rw [hs]; exact hl.2.2⟩, ⟨(own_set ho.own k.next (by decide) (q / 64) u).drew, ho.ne, by rw [hs]; exact ho.lt⟩⟩
set_option maxRecDepth 100000 in
set_option maxHeartbeats 8000000 in
theorem come_any (B tg b : Nat) (sa : Option Addr) (sc h x m : Nat) (av : Value) (ws wn : List Nat) (st : List NS) (sn : Nat) (hsn : st.length = sn) (p : Nat) (W : World) (hk : Wk W B b sa sn sc h x m av ws wn) (hav : OwnX W B tg av []) (hB : B ≤ W.heap.size) (hns : NsIn W B sa st) (hw : WaysOk st) (hwo : WordsOk wn) (hwl : wn.length = m) (hm : m ≤ 400) (hnm : sn ≤ 64 * m) (hp : p < sn) (hcl : Closed st (fun q => bitAt wn q = true)) :
    Calls Tryd.prog 56 #[.pointer (some ⟨b, 0, none⟩), .int .i64 (p : Int)] W fun e W' => (∃ v, e = .returned v) ∧ ComeOut B tg b sa sn sc h x m ws wn (Reach st p) st W W' := by
  refine (?_ : ∀ W0, Below B W0 W → KeepW tg W0 W → Calls Tryd.prog 56 #[.pointer (some ⟨b, 0, none⟩), .int .i64 (p : Int)] W fun e W' => (∃ v, e = .returned v) ∧ ComeOut B tg b sa sn sc h x m ws wn (Reach st p) st W0 W') W (Below.refl _ _) (KeepW.refl _ _)
  intro W0 hB0 hKW0
  have HB0 := Lib.hid hB0
  have HKW0 := Lib.hid hKW0
  have HK := Lib.hid hk
  have HNS : Hid (NsIn W0 B sa st) := fun k s hk => by
    obtain ⟨g, off, e1, e2, e3⟩ := hns k s hk
    exact ⟨g, off, e1, e2, fun j u hj => (hB0.cell (p := ⟨g, off + k * 8 + j, none⟩) e2).symm.trans (e3 j u hj)⟩
  have HW := Lib.hid hw
  have HSN := Lib.hid hsn
  have HGE := Lib.hid hB
  have c3 := hk.blk.cell 3
  simp at c3
  have HCI := Lib.hid (ComeI.start hcl p)
  have HWN : Hid (WordsOk wn ∧ wn.length = m) := ⟨hwo, hwl⟩
  have HLT : Hid (∀ q ∈ ([p] : List Nat), q < sn) := fun q hq => by rw [List.mem_singleton.1 hq]; exact hp
  have HMS : Hid (1 + 2 * cntW m wn ≤ 128 * m + 1) := by have := cnt_le m wn; show _ ≤ _; omega
  obtain ⟨G0, hG0⟩ : ∃ G0, G0 = 1 + 2 * cntW m wn := ⟨_, rfl⟩
  have HG0 := Lib.hid hG0
  obtain ⟨ag, ac, hsl, HAV⟩ : ∃ (ag : Option Addr) (ac : Nat), av = .slice ag 0 ac ∧ Hid (OwnX W B tg (.slice ag 0 ac) []) := by
    rcases hav.own.2 with ⟨e, _⟩ | ⟨g, c, cur, e, _⟩
    · exact ⟨none, 0, e, by have e2 : av = .slice none 0 0 := e; rw [← e2]; exact hav⟩
    · exact ⟨some ⟨g, 0, none⟩, c, e, by have e2 : av = .slice (some ⟨g, 0, none⟩) 0 c := e; rw [← e2]; exact hav⟩
  subst hsl
  clear hk hns hw hsn hwo hwl hcl hB hG0 hav hB0 hKW0
  go_enter Tryd.func56, Tryd.ntmps56
  have HA1 : Hid (OwnX (W.alloc (.cells #[.int .i64 (p : Int)] 3)) B tg (.slice ag 0 ac) [] ∧ B ≤ (W.alloc (.cells #[.int .i64 (p : Int)] 3)).heap.size ∧ Blk (W.alloc (.cells #[.int .i64 (p : Int)] 3)) W.heap.size 3 (([p] : List Nat).map pV).toArray) := ⟨HAV.out.alloc _, by have := HGE.out; rw [World.size_alloc]; omega, Blk.new _ _ _⟩
  go_upto_region 1 with (at_builtin; refine app_places rfl _ _ rfl B tg (.slice ag 0 ac) [] rfl HA1.out.1 HA1.out.2.1 W.heap.size 1 [p] rfl rfl HA1.out.2.2 (by simp) ?_; intro v1 W1 ho1 hg1; have HO1 := Lib.hid ho1; have HG1 := Lib.hid hg1; clear ho1 hg1)
  have HK1 := Lib.hid ((HK.out.alloc (.cells #[.int .i64 (p : Int)] 3)).grown HA1.out.1.own HG1.out)
  have HL1 : Hid (Below B W0 W1) := (HB0.out.alloc HGE.out _).grown HG1.out HA1.out.2.1 (fun r hr => (HA1.out.1.own.lt r hr).1)
  have HW1 : Hid (KeepW tg W0 W1) := keepW_grown (HKW0.out.alloc _) HA1.out.1 HG1.out
  have HO : Hid (OwnX W1 B tg v1 [p]) := HO1.out
  have HS1 : Hid (B ≤ W1.heap.size) := Nat.le_trans HA1.out.2.1 HG1.out.size
  clear HA1 HG1 HO1 HAV HK HB0 HKW0 c3
  go_loopg [4] G0 (fun gi u wr => ∃ (L : List Nat) (wn' : List Nat), gi = L.length + 2 * cntW m wn' ∧ L.length + 2 * cntW m wn' ≤ 128 * m + 1 ∧ Hid (OwnX wr B tg u L) ∧ Hid (Wk wr B b sa sn sc h x m (.slice ag 0 ac) ws wn') ∧ Hid (Below B W0 wr ∧ KeepW tg W0 wr ∧ B ≤ wr.heap.size) ∧ Hid (WordsOk wn' ∧ wn'.length = m) ∧ Hid (∀ q ∈ L, q < sn) ∧ Hid (ComeI st (fun q => bitAt wn q = true) p (fun q => bitAt wn' q = true) L))
  case atStart => exact ⟨[p], wn, HG0.out, HMS.out, HO, HK1, ⟨HL1.out, HW1.out, HS1.out⟩, HWN, HLT, HCI⟩
  case round =>
    clear HO HK1 HL1 HW1 HS1 HWN HLT HCI HMS HG0
    obtain ⟨L, wn', rfl, hms, HO, HK, HLK, HWN, HLT, HCI⟩ := hrel
    rcases List.eq_nil_or_concat L with rfl | ⟨L', q, rfl⟩
    · obtain ⟨A0, c0, hu⟩ : ∃ A c, u4 = .slice A 0 c := by
        rcases HO.out.own.2 with ⟨e, _⟩ | ⟨g, c, cur, e, _⟩
        · exact ⟨_, _, e⟩
        · exact ⟨_, _, e⟩
      subst hu
      have b3 := HK.out.blk.cell 3
      have f3 := HK.out.blk.frozen 3
      simp at b3
      have HK2 := Lib.hid (HK.out.keepAhead (.slice A0 0 c0))
      have HE := Lib.hid HCI.out.done
      have HO2 : Hid (OwnX (wr.setCell ⟨b, 3, none⟩ (.slice A0 0 c0)) B tg (.slice A0 0 c0) []) := ⟨own_set HO.out.own HK.out.blk (by decide) 3 _, HO.out.ne, by rw [World.size_setCell]; exact HO.out.lt⟩
      have HLK2 : Hid (Below B W0 (wr.setCell ⟨b, 3, none⟩ (.slice A0 0 c0)) ∧ KeepW tg W0 (wr.setCell ⟨b, 3, none⟩ (.slice A0 0 c0))) := ⟨HLK.out.1.setCell (p := ⟨b, 3, none⟩) HK.out.ge.1 _, keepW_set HLK.out.2.1 HK.out.blk (.inl rfl) 3 _⟩
      clear HCI HO HLK HK HLT
      go_wp2
      go_end0
      exact ⟨⟨_, rfl⟩, ⟨_, wn', HK2.out, HO2.out, HWN.out.1, HWN.out.2, HE.out.1, HE.out.2⟩, HLK2.out.1, HLK2.out.2⟩
    · rw [List.concat_eq_append] at *
      obtain ⟨k, hkl⟩ : ∃ k, k = L'.length := ⟨_, rfl⟩
      have hlen : (L' ++ [q]).length = k + 1 := by rw [List.length_append, hkl]; rfl
      obtain ⟨g, c, hu⟩ := own_there HO.out.own (by rw [hlen]; omega)
      rw [hlen] at hu
      obtain ⟨uu, huu⟩ : ∃ uu, u4 = uu := ⟨_, rfl⟩
      rw [huu] at hu HO ⊢
      subst hu
      have hqs : q < sn := HLT.out q (by simp)
      obtain ⟨cq, fq⟩ := own_cell (j := k) (u := .int .i64 (q : Int)) (by have h1 := HO.out.own; rw [hlen] at h1; exact h1) (by rw [List.map_append, List.getElem?_append_right (by rw [List.length_map, hkl]; exact Nat.le_refl _), List.length_map, hkl, Nat.sub_self]; rfl)
      have HOF : Hid (OwnX wr B tg (.slice (some ⟨g, 0, none⟩) k c) L') := by
        refine ⟨?_, HO.out.ne, HO.out.lt⟩
        have h1 := HO.out.own
        rw [List.map_append, hlen] at h1
        have h2 := own_front h1 k (by omega) (by rw [List.length_map, Nat.mul_one, hkl])
        show World.ownsRow _ _ _ _ _ _ _
        rw [← hkl]
        exact h2
      have b2 := HK.out.blk.cell 2
      simp at b2
      have hidx : (k : Int) < ((k + 1 : Nat) : Int) := by omega
      have hms2 : k + 1 + 2 * cntW m wn' ≤ 128 * m + 1 := by rw [hlen] at hms; exact hms
      have HKL := Lib.hid hkl
      have HLEN := Lib.hid hlen
      have hcap : k ≤ c := by
        obtain ⟨cur, _, _, h3, _⟩ := own_blk (by have h1 := HO.out.own; rw [hlen] at h1; exact h1)
        omega
      have HH := Lib.hid (mhas_any wn' HWN.out.1 q x m m (by omega) (by omega) HWN.out.2 wr HK.out.next)
      obtain ⟨bt, hbt⟩ : ∃ bt, bt = bitAt wn' q := ⟨_, rfl⟩
      rw [← hbt] at HH
      have HLT' : Hid (∀ y ∈ L', y < sn) := fun y hy => HLT.out y (List.mem_append_left _ hy)
      cases bt with
      | true =>
        have HC2 := Lib.hid (HCI.out.skip (q := q) hbt.symm)
        clear HO HCI HLT hlen hkl hms hbt huu
        go_wp2_with (go_at_call 67; refine HH.out.mono ?_; rintro e w5 ⟨rfl, hw5⟩; subst w5)
        go_roundg (L'.length + 2 * cntW m wn')
        case measure => rw [HLEN.out, ← HKL.out]; omega
        case rel => exact ⟨L', wn', rfl, by rw [← HKL.out]; omega, HOF, HK, HLK, HWN, HLT', HC2⟩
      | false =>
        have HPT := Lib.hid (mput_any wn' HWN.out.1 q x m m (by omega) (by omega) HWN.out.2 wr HK.out.next)
        obtain ⟨s, hs⟩ : ∃ s, st[q]? = some s := ⟨_, List.getElem?_eq_getElem (by rw [HSN.out]; exact hqs)⟩
        obtain ⟨g2, off2, e2, hg2, hcs⟩ := HNS.out q s hs
        have HNSC : Hid (∀ w6, Below B W0 w6 → ∀ j u, (nsCells s)[j]? = some u → w6.cell? ⟨g2, off2 + q * 8 + j, none⟩ = some u) := fun w6 hb6 j u hj => (hb6.cell (p := ⟨g2, off2 + q * 8 + j, none⟩) hg2).trans (hcs j u hj)
        have HBP : Hid (∀ y, bitAt (putW wn' q) y = true ↔ bitAt wn' y = true ∨ y = q) := fun y => by
          rw [bit_put (by rw [HWN.out.2]; omega), Bool.or_eq_true, decide_eq_true_iff]
        have HWN2 : Hid (WordsOk (putW wn' q) ∧ (putW wn' q).length = m) := ⟨putW_ok HWN.out.1 q, by rw [putW_len]; exact HWN.out.2⟩
        have hcn := cnt_put HWN.out.2 (by omega) hbt.symm
        have HPA : Hid (∀ w6, Blk w6 x 42 (wordsV (putW wn' q)) → w6 = (wr.setCell ⟨x, q / 64, none⟩ (.int .u64 ((wn'.getD (q / 64) 0 ||| 2 ^ (q % 64) : Nat) : Int))).drew → Wk w6 B b sa sn sc h x m (.slice ag 0 ac) ws (putW wn' q) ∧ (Below B W0 w6 ∧ KeepW tg W0 w6 ∧ B ≤ w6.heap.size) ∧ OwnX w6 B tg (.slice (some ⟨g, 0, none⟩) k c) L') := fun w6 h1 h2 => put_all HK.out HLK.out HOF.out h1 h2
        have hw2 := HW.out s (List.mem_of_getElem? hs)
        have HCM : Hid (¬ s.kind = 2 → ComeI st (fun q => bitAt wn q = true) p (fun y => bitAt (putW wn' q) y = true) L') := fun h => HCI.out.mark (fun y => HBP.out y) hs h
        have HCF : Hid (s.kind = 2 → ComeI st (fun q => bitAt wn q = true) p (fun y => bitAt (putW wn' q) y = true) (L' ++ [s.a.toNat, s.b.toNat])) := fun h => HCI.out.fork (fun y => HBP.out y) hs h
        generalize putW wn' q = wn2 at *
        clear HO HCI HLT hlen hkl hms hbt huu HBP hcs hs
        subst e2
        have hqn : (q : Int) < (sn : Int) := by omega
        by_cases hkd : s.kind = 2
        · obtain ⟨A, hA⟩ : ∃ A, A = s.a.toNat := ⟨_, rfl⟩
          obtain ⟨C, hC⟩ : ∃ C, C = s.b.toNat := ⟨_, rfl⟩
          obtain ⟨h1, h2, h3, h4⟩ := hw2.2 hkd
          rw [HSN.out] at h2 h4
          have HCF2 := Lib.hid (HCF.out hkd)
          rw [← hA, ← hC] at HCF2
          have HLT2 : Hid (∀ y ∈ L' ++ [A, C], y < sn) := fun y hy => by
            rcases List.mem_append.1 hy with hy | hy
            · exact HLT'.out y hy
            · simp only [List.mem_cons, List.not_mem_nil, or_false] at hy
              rcases hy with rfl | rfl
              · omega
              · omega
          have HCE : Hid (∀ w6, Below B W0 w6 → w6.cell? ⟨g2, off2 + q * 8, none⟩ = some (.int .u8 2) ∧ w6.cell? ⟨g2, off2 + q * 8 + 5, none⟩ = some (.int .i64 (A : Int)) ∧ w6.cell? ⟨g2, off2 + q * 8 + 6, none⟩ = some (.int .i64 (C : Int))) := fun w6 hb6 => by
            refine ⟨(HNSC.out w6 hb6 0 _ rfl).trans (by rw [hkd]; rfl), (HNSC.out w6 hb6 5 _ rfl).trans ?_, (HNSC.out w6 hb6 6 _ rfl).trans ?_⟩
            · rw [hA, Int.toNat_of_nonneg h1]
            · rw [hC, Int.toNat_of_nonneg h3]
          clear HNSC HCF HCM HLT' hw2 hkd hA hC h1 h2 h3 h4
          go_upto_region 9 with (first
            | (go_at_call 67; refine HH.out.mono ?_; rintro e w5 ⟨rfl, hw5⟩; subst w5)
            | (go_at_call 68; refine HPT.out.mono ?_; rintro e w6 ⟨⟨v6, rfl⟩, hb6, hw6⟩; have HP6 := Lib.hid (HPA.out w6 hb6 hw6); clear hb6 hw6; have p0 := HP6.out.1.blk.cell 0; simp at p0; obtain ⟨q0, q5, q6⟩ := HCE.out w6 HP6.out.2.1.1))
          have HAP : Hid (OwnX (w6.drew.alloc (.cells (#[.int .i64 (A : Int), .int .i64 (C : Int)] : Array Value) 3)) B tg (.slice (some ⟨g, 0, none⟩) k c) L' ∧ B ≤ (w6.drew.alloc (.cells (#[.int .i64 (A : Int), .int .i64 (C : Int)] : Array Value) 3)).heap.size ∧ Blk (w6.drew.alloc (.cells (#[.int .i64 (A : Int), .int .i64 (C : Int)] : Array Value) 3)) w6.heap.size 3 (([A, C] : List Nat).map pV).toArray) := ⟨HP6.out.2.2.drew.alloc _, Nat.le_trans HP6.out.2.1.2.2 (by rw [World.size_alloc]; exact Nat.le_succ _), Blk.new w6.drew _ _⟩
          have HLL : Hid (L'.length + 2 ≤ 10000000) := by rw [← HKL.out]; show _ ≤ _; omega
          have q5d : w6.drew.cell? ⟨g2, off2 + q * 8 + 5, none⟩ = some (.int .i64 (A : Int)) := q5
          have q6d : w6.drew.cell? ⟨g2, off2 + q * 8 + 6, none⟩ = some (.int .i64 (C : Int)) := q6
          refine wp_last' ?_
          intro K' hK'
          go_cut [4] from 52 to 62 (fun u wx => Hid (OwnX wx B tg u (L' ++ [A, C])) ∧ Hid ((w6.drew.alloc (.cells (#[.int .i64 (A : Int), .int .i64 (C : Int)] : Array Value) 3)).grownBy wx (Value.slice (some ⟨g, 0, none⟩) k c).ownBlock))
          case first =>
            go_region_law (refine step_places rfl (.tmp 52) (.tmp 61) rfl B tg (.slice (some ⟨g, 0, none⟩) k c) L' (by simp [Act.eval, Act.put]) HAP.out.1 HAP.out.2.1 w6.heap.size 2 [A, C] (by simp [Act.eval, Act.put]) rfl HAP.out.2.2 HLL.out ?_; intro v9 w9 ho9 hg9; have HO9 := Lib.hid ho9; have HG9 := Lib.hid hg9; clear ho9 hg9)
            all_goals go_wp2
            all_goals go_meet
            all_goals exact ⟨HO9, HG9⟩
          case rest =>
            obtain ⟨HO9, HG9⟩ := hcut
            have HK9 := Lib.hid ((HP6.out.1.drew.alloc (.cells (#[.int .i64 (A : Int), .int .i64 (C : Int)] : Array Value) 3)).grown HAP.out.1.own HG9.out)
            have HL9 : Hid (Below B W0 wc ∧ KeepW tg W0 wc ∧ B ≤ wc.heap.size) := ⟨((HP6.out.2.1.1.drew.alloc HP6.out.2.1.2.2 _).grown HG9.out HAP.out.2.1 (fun r hr => (HAP.out.1.own.lt r hr).1)), keepW_grown (HP6.out.2.1.2.1.drew.alloc _) HAP.out.1 HG9.out, Nat.le_trans HAP.out.2.1 HG9.out.size⟩
            clear HAP HG9 HP6
            refine hK' _ _ ?_
            go_wp2
            go_roundg ((L' ++ [A, C]).length + 2 * cntW m wn2)
            case measure =>
              rw [HLEN.out, List.length_append, ← HKL.out]
              show k + 2 + _ < _
              omega
            case rel => exact ⟨L' ++ [A, C], wn2, rfl, (by rw [List.length_append, ← HKL.out, List.length_cons, List.length_cons, List.length_nil]; omega), HO9, HK9, HL9, HWN2, HLT2, HCF2⟩
        · have HCM2 := Lib.hid (HCM.out hkd)
          obtain ⟨kd, hkk⟩ : ∃ kd, kd = s.kind := ⟨_, rfl⟩
          rw [← hkk] at hkd
          have hne : ((kd : Int) == 2) = false := by
            rw [Bool.eq_false_iff]
            intro h
            rw [beq_iff_eq] at h
            omega
          have HCE : Hid (∀ w6, Below B W0 w6 → w6.cell? ⟨g2, off2 + q * 8, none⟩ = some (.int .u8 (kd : Int))) := fun w6 hb6 => (HNSC.out w6 hb6 0 _ rfl).trans (by rw [hkk])
          clear HNSC HCF HCM hw2 hkk
          go_wp2_with (first
            | (go_at_call 67; refine HH.out.mono ?_; rintro e w5 ⟨rfl, hw5⟩; subst w5)
            | (go_at_call 68; refine HPT.out.mono ?_; rintro e w6 ⟨⟨v6, rfl⟩, hb6, hw6⟩; have HP6 := Lib.hid (HPA.out w6 hb6 hw6); clear hb6 hw6; have p0 := HP6.out.1.blk.cell 0; simp at p0; have q0 := HCE.out w6 HP6.out.2.1.1))
          go_roundg (L'.length + 2 * cntW m wn2)
          case measure => rw [HLEN.out, ← HKL.out]; omega
          case rel => exact ⟨L', wn2, rfl, by rw [← HKL.out]; omega, HP6.out.2.2, HP6.out.1, HP6.out.2.1, HWN2, HLT', HCM2⟩
end Go.Proofs.YtdckjjkaoecgaaaDoor
