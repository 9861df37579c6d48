/-
  The contract of (*nfa.maker).trees: the machine in plain terms, or there are too many states. Conditions: the trees lie in memory below the maker, 1 to 200 of them; at most 100000 nodes, a cap of at most 20000.
-/
import Derived.Test.YtdckjjkaoecgaaaDoorNbV
import Derived.Outline
import Derived.Deep.RegionHeld3
namespace Go.Proofs.YtdckjjkaoecgaaaDoor
open Go.RowKit Go.Shelf

attribute [local go_sem] Oper.semAt_some

/-- a statement that stands last: what follows, by a name -/
theorem wp_last {P : Program} {c : Code} {Q : Exit → Act → World → Prop} {a : Act} {w : World} (h : ∀ K : Act → World → Prop, (∀ a w, Q .normal a w → K a w) → c.wp P (Exit.then K (fun _ _ _ => False)) a w) : c.wp P Q a w :=
  Go.wp_mono (h (Q .normal) fun _ _ h => h) (fun e a w hq => by cases e <;> first | exact hq | exact hq.elim)
/-- what trees leaves -/
def TreesOut (B M : Nat) (most : Int) (w : World) (R : Int × List NS) (e : Ending) (w' : World) : Prop :=
  ∃ (n : Int) (st' : List NS), e = .returned (.int .i64 n) ∧ MkOut B w w' M st' most ∧ st'.length ≤ 30000 ∧ (((st'.length : Int) ≤ most ∧ (n, st') = R) ∨ (most < (st'.length : Int) ∧ most < (R.2.length : Int)))
set_option maxRecDepth 100000 in
set_option maxHeartbeats 8000000 in
theorem trees_any (M B : Nat) (v : Value) (most : Int) (ls : List Ry) (a : Option Addr) (c : Nat) (w : World) (h : Mk w M B v [] most) (hm0 : 0 ≤ most) (hmost : most ≤ 20000) (h1 : 1 ≤ ls.length) (hl : ls.length ≤ 200) (hk : RyIn w (· < B) a c ls) (hN : (preL ls).length ≤ 100000) :
    Calls Tryd.prog 30 #[.pointer (some ⟨M, 0, none⟩), .slice a ls.length c] w fun e w' => TreesOut B M most w (machineP ls) e w' := by
  obtain ⟨i0, hi0, hz0, hz1, hz2⟩ := info_parts infoIn
  have HO0 := Lib.hid ((MkOut.refl h).alloc (.cells #[.pointer (some ⟨M, 0, none⟩)] 83))
  have HK := Lib.hid hk
  have HGE : Hid (B ≤ w.heap.size) := h.ge
  have HRB := Lib.hid (Blk.new w 83 #[.pointer (some ⟨M, 0, none⟩)])
  have HCO := Lib.hid (Come.start ls most hm0)
  obtain ⟨n, hn⟩ : ∃ n, n = ls.length := ⟨_, rfl⟩
  have HNL := Lib.hid hn
  have HLE : Hid (1 ≤ n ∧ n ≤ 200) := ⟨by omega, by omega⟩
  have hn2 : n ≤ 200 := HLE.out.2
  have HMO : Hid (0 ≤ most ∧ most ≤ 20000) := ⟨hm0, hmost⟩
  have HN := Lib.hid hN
  rw [← hn]
  clear h hk hN hm0 hmost hl h1 hn
  refine (callsIn_wide (n := 6)).1 ?_
  refine callsIn_of_wp_marks Tryd.func30 rfl trivial ?_ rfl
  simp only [Tryd.ntmps30, List.size_toArray, List.length_cons, List.length_nil, Nat.reduceAdd, Nat.reduceSub, Array.replicate_succ, Array.replicate_zero, List.push_toArray, List.append_toArray, List.nil_append, List.cons_append]
  refine wpIn_wide.2 ?_
  go_wp2
  have HS0 : Hid (∃ v, Mk (w.alloc (.cells #[.pointer (some ⟨M, 0, none⟩)] 83)) M B v [] most) := HO0.out.maker
  have HLW : Hid (Below B w (w.alloc (.cells #[.pointer (some ⟨M, 0, none⟩)] 83)) ∧ w.heap.size + 1 = (w.alloc (.cells #[.pointer (some ⟨M, 0, none⟩)] 83)).heap.size) := ⟨HO0.out.low, by rw [World.size_alloc]⟩
  generalize hW0 : w.alloc (.cells #[.pointer (some ⟨M, 0, none⟩)] 83) = W0 at *
  obtain ⟨b0, hb0⟩ : ∃ b0, b0 = w.heap.size := ⟨_, rfl⟩
  rw [← hb0] at HRB ⊢
  clear hb0
  have HV0 : Hid (W0.ownsRow W0.heap.size 3 1 (.slice none 0 0) ([] : List Int).length (([] : List Int).map nV)) := World.ownsRow_nil _ _ _ _
  go_loopw [5, 14] (fun u i wr => ∃ (k : Nat) (L : List Int) (st : List NS), k ≤ n ∧ i = .int .i64 k ∧ Hid (wr.ownsRow W0.heap.size 3 1 u L.length (L.map nV)) ∧ Hid (MkOut B W0 wr M st most) ∧ Hid (Come ls most k L st) ∧ (st.length : Int) ≤ most + 1 + 2 * k) (fun _ i _ => n - (intOf i).toNat)
  case atStart => exact ⟨0, [], [], Nat.zero_le _, rfl, HV0.out, (by obtain ⟨v9, h9⟩ := HS0.out; exact MkOut.refl h9), HCO.out, by have := HMO.out.1; simp; omega⟩
  case round =>
    obtain ⟨k, L, st, hk, rfl, HOW, HM1, HC, hsl⟩ := hrel
    by_cases hlt : k < n
    · have hlt' : (k : Int) < n := by omega
      have h0' : (0 : Int) ≤ k := by omega
      have hko : k < ls.length := by rw [← HNL.out]; exact hlt
      obtain ⟨b, off, rfl, hbl, hbB, hxok, hxc, hxk⟩ := HK.out.at_ hko
      obtain ⟨x, hx⟩ : ∃ x, x = ls[k]'hko := ⟨_, rfl⟩
      rw [← hx] at hxc hxk hxok
      have HX := Lib.hid hx
      have hpx : (preR x).length ≤ 100000 := by
        have h1 : preL (ls.drop k) = preR x ++ preL (ls.drop (k + 1)) := by rw [List.drop_eq_getElem_cons hko, preL, ← hx]
        have h2 := congrArg (fun l => (preL l).length) (List.take_append_drop k ls)
        have h3 := HN.out
        simp only [preL_app, List.length_append] at h2
        rw [h1, List.length_append] at h2
        omega
      have hsame : ∀ o, wr.cell? ⟨b, o, none⟩ = w.cell? ⟨b, o, none⟩ := fun o => (HLW.out.1.trans HM1.out.low).cell (p := ⟨b, o, none⟩) hbB
      have a0 := (hsame _).trans (hxc 0 _ rfl)
      have a1 := (hsame _).trans (hxc 1 _ rfl)
      have a2 := (hsame _).trans (hxc 2 _ rfl)
      have a3 := (hsame _).trans (hxc 3 _ rfl)
      have a4 := (hsame _).trans (hxc 4 _ rfl)
      have a5 := (hsame _).trans (hxc 5 _ rfl)
      rw [Nat.add_zero] at a0
      have HT : Hid (∀ (W : World) (st1 : List NS) (tw : Int), MkOut B W0 W M st1 most → st1.length ≤ 30000 → Calls Tryd.prog 50 #[.pointer (some ⟨M, 0, none⟩), .agg (ryCells x).toArray, .int .i64 tw] W fun e w' => TreeOut B M st1.length most W (towardR x tw st1) e w') := fun W st1 tw hW hl1 => by
        obtain ⟨v5, hv5⟩ := hW.maker
        refine tree_any M B v5 st1 most x tw W hv5 HMO.out.2 hl1 (hxk.later (Nat.le_trans (by have := HLW.out.2; omega) hW.low.size) (fun b5 _ h5 => ⟨h5, (HLW.out.1.trans hW.low).block b5 h5⟩)) hpx
      unfold ryCells at HT
      obtain ⟨xl, hxl⟩ : ∃ xl, xl = x.kids.length := ⟨_, rfl⟩
      rw [← hxl] at a5 HT
      clear hx hxc hxk hxok hbl hbB hpx hxl hsame
      go_upto_region 5 with (fail)
      have HM2 := Lib.hid (HM1.out.alloc (.cells #[.int .u8 (x.kind : Int), .int .u64 (x.s0 : Int), .int .u64 (x.s1 : Int), .int .u64 (x.s2 : Int), .int .u64 (x.s3 : Int), .slice x.a xl x.cap] 46))
      have HO2 := Lib.hid (HOW.out.alloc (.cells #[.int .u8 (x.kind : Int), .int .u64 (x.s0 : Int), .int .u64 (x.s1 : Int), .int .u64 (x.s2 : Int), .int .u64 (x.s3 : Int), .slice x.a xl x.cap] 46))
      have HR2 := Lib.hid (Blk.new wr 46 #[.int .u8 (x.kind : Int), .int .u64 (x.s0 : Int), .int .u64 (x.s1 : Int), .int .u64 (x.s2 : Int), .int .u64 (x.s3 : Int), .slice x.a xl x.cap])
      clear HM1 HOW a0 a1 a2 a3 a4 a5
      generalize wr.alloc (.cells #[.int .u8 (x.kind : Int), .int .u64 (x.s0 : Int), .int .u64 (x.s1 : Int), .int .u64 (x.s2 : Int), .int .u64 (x.s3 : Int), .slice x.a xl x.cap] 46) = W1 at *
      generalize wr.heap.size = b1 at *
      have HKB : Hid (∀ W, KeepT W1 W → W.cell? ⟨b0, 0, none⟩ = some (.pointer (some ⟨M, 0, none⟩)) ∧ W.cell? ⟨b1, 0, none⟩ = some (.int .u8 (x.kind : Int)) ∧ W.cell? ⟨b1, 1, none⟩ = some (.int .u64 (x.s0 : Int)) ∧ W.cell? ⟨b1, 2, none⟩ = some (.int .u64 (x.s1 : Int)) ∧ W.cell? ⟨b1, 3, none⟩ = some (.int .u64 (x.s2 : Int)) ∧ W.cell? ⟨b1, 4, none⟩ = some (.int .u64 (x.s3 : Int)) ∧ W.cell? ⟨b1, 5, none⟩ = some (.slice x.a xl x.cap)) := fun W hW => by
        have h1 := hW.lt (HM2.out.keep.lt HRB.out (by decide) (by decide)) (by decide) (by decide)
        have h2 := hW.lt HR2.out (by decide) (by decide)
        exact ⟨h1.cell 0, h2.cell 0, h2.cell 1, h2.cell 2, h2.cell 3, h2.cell 4, h2.cell 5⟩
      have HKG : Hid (∀ W, KeepT W1 W → ∀ v, W.ownsRow W0.heap.size 3 1 v L.length (L.map nV) → ∀ W', W.grownBy W' v.ownBlock → W'.cell? ⟨b0, 0, none⟩ = some (.pointer (some ⟨M, 0, none⟩)) ∧ W'.cell? ⟨b1, 0, none⟩ = some (.int .u8 (x.kind : Int)) ∧ W'.cell? ⟨b1, 1, none⟩ = some (.int .u64 (x.s0 : Int)) ∧ W'.cell? ⟨b1, 2, none⟩ = some (.int .u64 (x.s1 : Int)) ∧ W'.cell? ⟨b1, 3, none⟩ = some (.int .u64 (x.s2 : Int)) ∧ W'.cell? ⟨b1, 4, none⟩ = some (.int .u64 (x.s3 : Int)) ∧ W'.cell? ⟨b1, 5, none⟩ = some (.slice x.a xl x.cap)) := fun W hW v ho W' hg => by
        have h1 := hW.lt (HM2.out.keep.lt HRB.out (by decide) (by decide)) (by decide) (by decide)
        have h2 := hW.lt HR2.out (by decide) (by decide)
        have h1 := h1.kept hg (blk_apart ho h1 (by decide))
        have h2 := h2.kept hg (blk_apart ho h2 (by decide))
        exact ⟨h1.cell 0, h2.cell 0, h2.cell 1, h2.cell 2, h2.cell 3, h2.cell 4, h2.cell 5⟩
      have HK2 : Hid (KeepT W1 W1.drew) := KeepT.of_below (Below.refl _ W1).drew
      have HM3 := Lib.hid HM2.out.drew
      obtain ⟨p0, q0, q1, q2, q3, q4, q5⟩ := HKB.out _ HK2.out
      have hst : st.length ≤ 25000 := by have := HMO.out.2; omega
      refine wp_last ?_
      intro K' hK'
      go_cut [5] from 19 to 29 (fun u wx => ∃ (n1 : Int) (st1 : List NS), Hid (wx.ownsRow W0.heap.size 3 1 u (L ++ [n1]).length ((L ++ [n1]).map nV)) ∧ Hid (MkOut B W0 wx M st1 most) ∧ Hid (Come ls most (k + 1) (L ++ [n1]) st1) ∧ Hid ((st1.length : Int) ≤ most + 1 + 2 * ((k + 1 : Nat) : Int)))
      case first =>
        have HS3 := Lib.hid (HKB.out _ HK2.out)
        go_region_held3 (fun W => W.cell? ⟨b0, 0, none⟩ = some (.pointer (some ⟨M, 0, none⟩)) ∧ W.cell? ⟨b1, 0, none⟩ = some (.int .u8 (x.kind : Int)) ∧ W.cell? ⟨b1, 1, none⟩ = some (.int .u64 (x.s0 : Int)) ∧ W.cell? ⟨b1, 2, none⟩ = some (.int .u64 (x.s1 : Int)) ∧ W.cell? ⟨b1, 3, none⟩ = some (.int .u64 (x.s2 : Int)) ∧ W.cell? ⟨b1, 4, none⟩ = some (.int .u64 (x.s3 : Int)) ∧ W.cell? ⟨b1, 5, none⟩ = some (.slice x.a xl x.cap))
          (first | (with_reducible exact HS3.out) | (with_reducible exact HS5.out) | (with_reducible exact HS6.out) | (with_reducible exact HS7.out) | (with_reducible exact HS8.out) | (with_reducible exact HS9.out))
          (first
          | (go_at_call 52; refine (end_any (k : Int) W1.drew).mono ?_; rintro e w5 ⟨rfl, hb5⟩; have HM5 := Lib.hid (HM3.out.later hb5); have HK5 := Lib.hid (HK2.out.trans (KeepT.of_below hb5)); have HS5 := Lib.hid (HKB.out _ HK5.out); have HADD : Hid (Calls Tryd.prog 51 #[.pointer (some ⟨M, 0, none⟩), .agg (nsCells (endN (k : Int))).toArray] w5 fun e w' => e = .returned (.int .i64 (st.length : Int)) ∧ MkOut B w5 w' M (st ++ [endN (k : Int)]) most) := (by obtain ⟨v5, hv5⟩ := HM5.out.maker; exact add_any M B v5 st most _ w5 hv5 (by omega)); clear hb5)
          | (go_at_call 51; refine HADD.out.mono ?_; rintro e w6 ⟨rfl, hout⟩; have HM6 := Lib.hid (HM5.out.trans hout); have HK6 := Lib.hid (HK5.out.trans hout.keep); have HS6 := Lib.hid (HKB.out _ HK6.out); have HTR := Lib.hid (HT.out w6 (st ++ [endN (k : Int)]) (st.length : Int) HM6.out (by simp; omega)); clear hout)
          | (go_at_call 50; refine HTR.out.mono ?_; rintro e w7 ⟨n1, st1, rfl, hout, hle, hres⟩; have HM7 := Lib.hid (HM6.out.trans hout); have HK7 := Lib.hid (HK6.out.trans hout.keep); have HS7 := Lib.hid (HKB.out _ HK7.out); have HS8 := Lib.hid (HKB.out _ (HK7.out.alloc (.cells #[.int .i64 n1] 3))); have HRES := Lib.hid hres; have HLE2 := Lib.hid hle; clear hout hres hle; have HAP : Hid ((w7.alloc (.cells (#[.int .i64 n1] : Array Value) 3)).ownsRow W0.heap.size 3 1 u5 L.length (L.map nV) ∧ W0.heap.size ≤ (w7.alloc (.cells (#[.int .i64 n1] : Array Value) 3)).heap.size ∧ Blk (w7.alloc (.cells (#[.int .i64 n1] : Array Value) 3)) w7.heap.size 3 #[nV n1]) := ⟨(HK7.out.own HO2.out (by decide) (by decide)).alloc _, (by have := HM7.out.low.size; rw [World.size_alloc]; omega), Blk.new _ _ _⟩)
          | (refine step_int rfl (.tmp 19) (.tmp 27) rfl W0.heap.size u5 L n1 (by simp [Act.eval, Act.put]) HAP.out.1 HAP.out.2.1 w7.heap.size (by simp [Act.eval, Act.put]) HAP.out.2.2 (by have := HC.out.1; omega) ?_; intro v9 w9 hown9 hg9; have HO9 := Lib.hid hown9; have HM9 := Lib.hid ((HM7.out.alloc (.cells (#[.int .i64 n1] : Array Value) 3)).grown HAP.out.1 hg9 (by decide) (by decide) (by have := HLW.out.2; have := HGE.out; omega) (Nat.le_refl _) HAP.out.2.1); have HS9 := Lib.hid (HKG.out _ (HK7.out.alloc (.cells (#[.int .i64 n1] : Array Value) 3)) _ HAP.out.1 w9 hg9); clear hown9 hg9))
        all_goals go_wp2
        all_goals go_meet
        all_goals refine ⟨n1, st1, HO9.out, HM9.out, HC.out.step (by rw [← HNL.out]; exact hlt) n1 ?_, ?_⟩
        · have h := HRES.out
          rw [HX.out] at h
          exact h
        · have h := HLE2.out
          have hm := HMO.out.1
          show (st1.length : Int) ≤ _
          rw [List.length_append, List.length_singleton] at h
          omega
      case rest =>
        obtain ⟨n1, st1, HO9, HM9, HC9, HL9⟩ := hcut
        refine hK' _ _ ?_
        go_wp2
        refine ⟨⟨k + 1, L ++ [n1], st1, hlt, rfl, HO9, HM9, HC9, HL9.out⟩, ?_⟩
        show n - ((k : Int) + 1).toNat < n - (k : Int).toNat
        omega
    · have hkn : k = n := by omega
      subst hkn
      rw [HNL.out] at HC
      have HC2 := Lib.hid (HC.out.end_)
      rw [← HNL.out] at HC2
      have HOW' := HOW.out
      obtain ⟨L', lst, rfl⟩ : ∃ L' lst, L = L' ++ [lst] := by
        rcases List.eq_nil_or_concat L with hL | ⟨L', lst, hL⟩
        · have h1 := HC2.out.1
          have h2 := HLE.out.1
          rw [hL] at h1
          simp at h1
          omega
        · exact ⟨L', lst, by rw [hL, List.concat_eq_append]⟩
      obtain ⟨m, hm⟩ : ∃ m, m = L'.length := ⟨_, rfl⟩
      have hkm : k = m + 1 := by
        have h1 := HC2.out.1
        rw [List.length_append, List.length_singleton] at h1
        omega
      have hlen : (L' ++ [lst]).length = m + 1 := by rw [List.length_append, List.length_singleton, hm]
      obtain ⟨g, cap, hu⟩ := own_there HOW' (by rw [hlen]; omega)
      rw [hlen] at hu HOW'
      obtain ⟨uu, huu⟩ : ∃ uu, u5 = uu := ⟨_, rfl⟩
      rw [huu] at hu HOW' HOW ⊢
      subst hu
      subst hkm
      have c1 : wr.cell? ⟨g, m, none⟩ = some (.int .i64 lst) := (own_cell HOW' (j := m) (by rw [List.map_append, List.getElem?_append_right (by simp [hm])]; simp [hm, nV])).1
      obtain ⟨cur, hcu, hgw, hncap, hcm, hcs, hct⟩ := own_blk HOW'
      have HGB := Lib.hid hcu
      have HCT : Hid (cap ≤ maxLen ∧ W0.heap.size ≤ g ∧ m + 1 ≤ cap ∧ cur.toList.take ((m + 1) * 1) = (L' ++ [lst]).map nV) := ⟨hcm, hgw, hncap, hct⟩
      have HML := Lib.hid hm
      have hm2 : m ≤ 200 := by omega
      have hidx : (m : Int) < ((m + 1 : Nat) : Int) := by omega
      have hm0' : (0 : Int) ≤ m := by omega
      have hm1 : ((m + 1 : Nat) : Int) - 1 = m := by omega
      have hsl9 : ∀ W, (Instr.slice 35 (.slice (some ⟨g, 0, none⟩) (m + 1) cap) none (some (.int .i64 (m : Int))) none).run Tryd.prog W = .ok (.slice (some ⟨g, 0, none⟩) m cap) W := fun W => by
        have h1 := HCT.out.1
        have h2 := HCT.out.2.2.1
        unfold maxLen at h1
        rw [run_slice_h W 35 _ _ _ (by kernel_rfl) .i64 (m : Int) (by omega) (by omega)]
        have : ∀ W, (sizeOf (Tryd.prog.elem 35)).run Tryd.prog W = .ok 1 W := fun W => by kernel_rfl
        rw [this]
        unfold sliced
        have h0 : (⟨g, 0, none⟩ : Addr).add 0 = ⟨g, 0, none⟩ := by rw [Addr.add_lit]
        simp [Result.andThen, h0]
      clear HC HOW HOW' hcu hgw hncap hcm hcs hct hm huu
      go_upto_region 9 with (fail)
      go_wp2_with (go_at_call 53; refine (backward_any _ _ _ _).mono ?_; rintro e w9 ⟨rfl, rfl⟩)
      have HM2 := Lib.hid ((HM1.out.alloc (.cells #[.int .i64 lst] 3)).alloc (.cells #[.slice (some ⟨g, 0, none⟩) m cap] 35))
      have HBB := Lib.hid ((Blk.new wr 3 #[.int .i64 lst]).alloc (.cells #[.slice (some ⟨g, 0, none⟩) m cap] 35))
      have HBX : Hid (Blk ((wr.alloc (.cells #[.int .i64 lst] 3)).alloc (.cells #[.slice (some ⟨g, 0, none⟩) m cap] 35)) (wr.heap.size + 1) 35 #[.slice (some ⟨g, 0, none⟩) m cap]) := Blk.new_at _ _ _ _ (by rw [World.size_alloc])
      have HGG := Lib.hid ((HGB.out.alloc (.cells #[.int .i64 lst] 3)).alloc (.cells #[.slice (some ⟨g, 0, none⟩) m cap] 35))
      have HRR := Lib.hid (HM2.out.keep.lt HRB.out (by decide) (by decide))
      have HNE : Hid (g < wr.heap.size ∧ b0 < wr.heap.size ∧ W0.heap.size ≤ wr.heap.size ∧ B ≤ wr.heap.size) := ⟨HGB.out.lt, (HM1.out.keep.lt HRB.out (by decide) (by decide)).lt, HM1.out.low.size, by have h2 := HM1.out.low.size; have h3 := HLW.out.2; have h4 := HGE.out; omega⟩
      clear HM1 HGB c1
      generalize (wr.alloc (.cells #[.int .i64 lst] 3)).alloc (.cells #[.slice (some ⟨g, 0, none⟩) m cap] 35) = W2 at *
      generalize wr.heap.size = bb at *
      have hseq := backward_seq 5 (by omega) (bb + 1) L' m HML.out.symm (by omega) (some ⟨g, 0, none⟩) cap (fun j => j ≠ g ∧ j ≠ bb + 1) W2 HBX.out (by simp) (by
        refine .inr ⟨g, 0, cur, rfl, HGG.out, by simp, fun j hj => ?_⟩
        have h1 := HCT.out.2.2.2
        have h2 : (cur.toList.take ((m + 1) * 1))[j]? = ((L' ++ [lst]).map nV)[j]? := by rw [h1]
        rw [List.getElem?_take_of_lt (by have := HML.out; omega), List.map_append, List.getElem?_append_left (by simpa using hj)] at h2
        rw [Nat.zero_add, ← Array.getElem?_toList, h2]
        simp [nV, List.getD_eq_getElem?_getD, List.getElem?_eq_getElem hj])
      refine (wpIn_wide (n := 6)).1 ?_
      refine wpIn_rangeFunc_ownG rfl (by omega) (gf := 66) (lb := #[.pointer (some ⟨bb + 1, 0, none⟩)]) rfl trivial (enters_of Tryd.func66 (by kernel_rfl) rfl)
        hseq (fun h k => KeepX.trans h k) (fun W l o o' _ hl ho _ => KeepX.put hl ho) (Below.refl _ _) (fun _ => rfl)
        (fun (pre : List (Nat × Int)) (W : World) => Blk W bb 3 #[.int .i64 (foldB pre lst st).1] ∧ MkOut B W0 W M (foldB pre lst st).2 most ∧ Blk W g 3 cur ∧ Blk W (bb + 1) 35 #[.slice (some ⟨g, 0, none⟩) m cap] ∧ Blk W b0 83 #[.pointer (some ⟨M, 0, none⟩)])
        (fun _ _ _ => False)
        (fun s A B' row hs hg hr => ⟨blk_beside hs.1 hg (fun r e => (hr r e).2), hs.2.1.beside hg (fun r e => ⟨by have h1 := (hr r e).1; have h2 := HM2.out.low.size; have h3 := HLW.out.2; have h4 := HGE.out; omega, (hr r e).2⟩), blk_beside hs.2.2.1 hg (fun r e => (hr r e).2), blk_beside hs.2.2.2.1 hg (fun r e => (hr r e).2), blk_beside hs.2.2.2.2 hg (fun r e => (hr r e).2)⟩)
        (fun _ _ _ _ _ hs _ _ => hs)
        ⟨HBB.out, HM2.out, HGG.out, HBX.out, HRR.out⟩
        (fun x => { tmps := #[.pointer (some ⟨M, 0, none⟩), .slice a (m + 1) c, .pointer (some ⟨b0, 0, none⟩), undef, .int .i64 0, .slice (some ⟨g, 0, none⟩) (m + 1) cap, u6, u7, .int .i64 (m : Int), .pointer (some ⟨bb, 0, none⟩), undef, .int .i64 x.2, .slice a (m + 1) c, .int .i64 ((m : Int) + 1), .int .i64 ((m : Int) + 1), .bool false, u16, u17, u18, u19, u20, u21, u22, u23, u24, u25, u26, u27, u28, u29, .slice (some ⟨g, 0, none⟩) (m + 1) cap, .int .i64 ((m : Int) + 1), .int .i64 (m : Int), .slice (some ⟨g, 0, none⟩) (m + 1) cap, .int .i64 (m : Int), .pointer (some ⟨g, m, none⟩), .int .i64 lst, .slice (some ⟨g, 0, none⟩) (m + 1) cap, .int .i64 (m : Int), .slice (some ⟨g, 0, none⟩) m cap, .func (.func 66) #[] #[.pointer (some ⟨bb + 1, 0, none⟩)], .int .i64 (x.1 : Int), .int .i64 x.2, undef, undef, undef, undef, undef, undef], defers := [] }) ?assign ?body ?done ?stop
      case assign =>
        intro l x W K hK
        gi_wp2
        exact hK
      case stop =>
        intro D c pre W _ _ h
        exact h.elim
      case body =>
        rintro l2 pre x W ⟨hbb, hmk, hgg, hbx, hrr⟩ hlt
        have hF := foldB_snoc pre x lst st
        have hFl := foldB_len lst st pre.length pre rfl
        generalize foldB pre lst st = P at *
        obtain ⟨bn, sn⟩ := P
        dsimp only at *
        have HF := Lib.hid hF
        have hsn : sn.length ≤ 30000 := by have := HMO.out.2; omega
        have HB3 : Hid (Blk W bb 3 #[.int .i64 bn] ∧ MkOut B W0 W M sn most ∧ Blk W g 3 cur ∧ Blk W (bb + 1) 35 #[.slice (some ⟨g, 0, none⟩) m cap] ∧ Blk W b0 83 #[.pointer (some ⟨M, 0, none⟩)]) := ⟨hbb, hmk, hgg, hbx, hrr⟩
        have cb := hbb.drew.cell 0
        have cr := hrr.drew.cell 0
        simp at cb cr
        clear hseq hbb hmk hgg hbx hrr hFl hF
        gi_wp2_with fail
        gi_region_with (first
          | (refine ⟨trivial, ?_⟩; gi_at_call 54; refine (CallsIn.inRound l2 (callsIn_wide.2 (split_any x.2 bn _))).mono ?_; rintro e w5 ⟨rfl, hb5⟩; have HB5 := Lib.hid hb5; have HBB5 := Lib.hid (HB3.out.1.drew.below hb5 HB3.out.1.drew.lt); have HM5 := Lib.hid (HB3.out.2.1.drew.later hb5); have cr5 := (HB3.out.2.2.2.2.drew.below hb5 HB3.out.2.2.2.2.drew.lt).cell 0; simp at cr5; clear hb5)
          | (refine ⟨trivial, ?_⟩; gi_at_call 51; obtain ⟨v5, hv5⟩ := HM5.out.maker; refine (CallsIn.inRound l2 (callsIn_wide.2 (add_more M B v5 sn most (splitN x.2 bn) _ hv5 (by omega)))).mono ?_; rintro e w6 ⟨rfl, hout, hoth⟩; have HM6 := Lib.hid hout; have HO6 := Lib.hid hoth; have HBB6 := Lib.hid (hout.keep.lt HBB5.out (by decide) (by decide)); have c6 := HBB6.out.cell 0; have f6 := HBB6.out.frozen 0; simp at c6; clear hout hoth))
        all_goals
          have k1 := HM6.out.keep.lt (HB3.out.2.2.1.drew.below HB5.out HB3.out.2.2.1.drew.lt) (by decide) (by decide)
          have k2 := HM6.out.keep.lt (HB3.out.2.2.2.1.drew.below HB5.out HB3.out.2.2.2.1.drew.lt) (by decide) (by decide)
          have k3 := HM6.out.keep.lt (HB3.out.2.2.2.2.drew.below HB5.out HB3.out.2.2.2.2.drew.lt) (by decide) (by decide)
          have hn := HNE.out
          have k1 := k1.other (p := ⟨bb, 0, none⟩) (by show g ≠ bb; omega) (.int .i64 (sn.length : Int))
          have k2 := k2.other (p := ⟨bb, 0, none⟩) (by show bb + 1 ≠ bb; omega) (.int .i64 (sn.length : Int))
          have k3 := k3.other (p := ⟨bb, 0, none⟩) (by show b0 ≠ bb; omega) (.int .i64 (sn.length : Int))
          have k4 := HBB6.out.set_ 0 (.int .i64 (sn.length : Int))
          have k5 := (HM5.out.trans HM6.out).set HBB6.out (by decide) (by decide) hn.2.2.1 hn.2.2.2 0 (.int .i64 (sn.length : Int))
          have k6 : KeepsFrom W2.heap.size W (w6.setCell ⟨bb, 0, none⟩ (.int .i64 (sn.length : Int))) := (((keepsFrom_low _ (Below.refl _ W).drew).trans (keepsFrom_low _ HB5.out)).trans (HO6.out.from _)).trans ((KeepsOthers.setCell _ _ _).from _)
          exact ⟨k6, keepX_two k6.size HB3.out.2.2.1 HB3.out.2.2.2.1 k1 k2, by rw [HF.out]; exact k4, by rw [HF.out]; exact k5, k1, k2, k3⟩
      case done =>
        rintro D xs W hD0 rfl ⟨hbb, hmk, hgg, hbx, hrr⟩ hD
        have hF : foldB (bwd L' m) lst st = splitsP L' lst st := by rw [foldB_bwd L' lst st m (by rw [← HML.out]; omega), ← HML.out, Nat.sub_self, List.drop_zero]
        have hFl := foldB_len lst st m (bwd L' m) (bwd_len L' m)
        generalize foldB (bwd L' m) lst st = P at *
        obtain ⟨bn, sn⟩ := P
        dsimp only at *
        have HF := Lib.hid hF
        have HFL := Lib.hid hFl
        have HMK := Lib.hid hmk
        have HD : Hid (W.heap[D]? = some (.deferred (some [])) ∧ W2.heap.size ≤ D) := ⟨hD, hD0⟩
        have cb := hbb.cell 0
        simp at cb
        clear hF hFl hmk hD hbb hgg hbx hrr hseq
        go_wp2
        refine ⟨by simp, .inl ⟨_, _, rfl, run_takeDeferred HD.out.1, ?_⟩⟩
        refine ⟨.int .i64 bn, by simp [results, Tryd.f30, go_sem], bn, sn, rfl, (HO0.out.trans HMK.out).beside (grownBy_putObj' W D _) (fun r e => by injection e with e; subst e; exact ⟨by have h1 := HD.out.2; have h2 := HM2.out.low.size; have h3 := HLW.out.2; have h4 := HGE.out; omega, _, HD.out.1, rfl⟩), by have h1 := HFL.out; have h2 := HMO.out.2; omega, ?_⟩
        unfold machineP
        rcases HC2.out.2 with ⟨h1, h2⟩ | ⟨h1, h2⟩
        · rw [h2]
          simp only [List.dropLast_concat]
          have h3 : (L' ++ [lst]).getLastD 0 = lst := by simp
          rw [h3, ← HF.out]
          by_cases h4 : (sn.length : Int) ≤ most
          · exact .inl ⟨h4, rfl⟩
          · exact .inr ⟨by omega, by show most < (sn.length : Int); omega⟩
        · refine .inr ⟨by have := HFL.out; omega, ?_⟩
          rw [splits_len]
          omega
end Go.Proofs.YtdckjjkaoecgaaaDoor
