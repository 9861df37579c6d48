/-
  The contract of (*nfa.maker).tree: what the plain terms tell, or there are too many states. Conditions: the tree lies in memory below the maker; at most 100000 nodes, a cap of at most 20000.
-/
import Derived.Test.YtdckjjkaoecgaaaDoorNbT
namespace Go.Proofs.YtdckjjkaoecgaaaDoor
open Go.RowKit

/-- what tree leaves -/
def TreeOut (B M l0 : Nat) (most : Int) (w : World) (R : Int × List NS) (e : Ending) (w' : World) : Prop :=
  ∃ (n : Int) (st' : List NS), e = .returned (.int .i64 n) ∧ MkOut B w w' M st' most ∧ (st'.length : Int) ≤ max (most + 1) ((l0 : Int) + 1) ∧ (((st'.length : Int) ≤ most ∧ (n, st') = R) ∨ (most < (st'.length : Int) ∧ most < (R.2.length : Int)))
theorem MkOut.join {B M g : Nat} {a b c : World} {st st' : List NS} {most : Int} {cur : Array Value} (h : MkOut B a b M st most) (k : JnOut B b c M g cur st' most) (hg : a.heap.size ≤ g) : MkOut B a c M st' most :=
  ⟨k.maker, h.low.trans k.low, fun g' t cs hb k1 k2 => k.keep g' t cs (h.keep g' t cs hb k1 k2) k1 k2 (by have := hb.lt; omega)⟩
theorem MkOut.grown {B M : Nat} {a b c : World} {st : List NS} {most : Int} (h : MkOut B a b M st most) {BU z n : Nat} {e : TypeId} {v : Value} {xs : List Value} (ho : b.ownsRow BU e z v n xs) (hg : b.grownBy c v.ownBlock) (h1 : e ≠ 65) (h2 : e ≠ 56) (hB : B ≤ BU) (ha : a.heap.size ≤ BU) (hbs : BU ≤ b.heap.size) : MkOut B a c M st most := by
  obtain ⟨v', hv⟩ := h.maker
  refine ⟨⟨v', hv.blk.kept hg (blk_apart ho hv.blk (Ne.symm h1)), hv.own.kept hg (own_apart hv.own ho (Ne.symm h2)), hv.low⟩, h.low.grown hg (Nat.le_trans hB hbs) (fun r hr => Nat.le_trans hB (ho.lt r hr).1), fun g' t cs hb k1 k2 => (h.keep g' t cs hb k1 k2).kept hg (fun e => ?_)⟩
  have h3 := (ho.lt g' e.symm).1
  have := hb.lt
  omega
theorem grown_under {B M g c m : Nat} {most : Int} {w w8 w9 : World} {V : List Pm} {x n : Pm} {st : List NS} {v9 : Value} {cs : Array Value} (hu : Under B w.heap.size w w8 (.slice (some ⟨g, 0, none⟩) (m + 1) c) V x st) (hm : MkOut B w w8 M st most)
    (hown : (w8.alloc (.cells cs 104)).ownsRow w.heap.size 104 4 (.slice (some ⟨g, 0, none⟩) (m + 1) c) (V ++ [x]).length ((V ++ [x]).flatMap pmC)) (hs : w.heap.size ≤ (w8.alloc (.cells cs 104)).heap.size)
    (h9 : w9.ownsRow w.heap.size 104 4 v9 ((V ++ [x]) ++ [n]).length (((V ++ [x]) ++ [n]).flatMap pmC)) (hg : (w8.alloc (.cells cs 104)).grownBy w9 (Value.slice (some ⟨g, 0, none⟩) (m + 1) c).ownBlock) (hk : RyIn w (· < B) n.a n.c n.L) (hs2 : StarOk n.q st.length) (hB : B ≤ w.heap.size) :
    Under B w.heap.size w w9 v9 (V ++ [x]) n st ∧ MkOut B w w9 M st most := by
  refine ⟨⟨h9, fun y hy => ?_, fun y hy => ?_⟩, (hm.alloc _).grown hown hg (by decide) (by decide) hB (Nat.le_refl _) hs⟩
  · rcases List.mem_append.1 hy with hy | hy
    · exact hu.kids y hy
    · obtain rfl := List.mem_singleton.1 hy
      exact hk
  · rcases List.mem_append.1 hy with hy | hy
    · exact hu.star y hy
    · obtain rfl := List.mem_singleton.1 hy
      exact hs2
set_option maxRecDepth 100000 in
set_option maxHeartbeats 8000000 in
theorem tree_any (M B : Nat) (v : Value) (st : List NS) (most : Int) (t : Ry) (tw : Int) (w : World) (h : Mk w M B v st most) (hmost : most ≤ 20000) (hl : st.length ≤ 30000) (hk : RyIn w (· < B) t.a t.cap t.kids) (hN : (preR t).length ≤ 100000) :
    Calls Tryd.prog 50 #[.pointer (some ⟨M, 0, none⟩), .agg (ryCells t).toArray, .int .i64 tw] w fun e w' => TreeOut B M st.length most w (towardR t tw st) e w' := by
  obtain ⟨i0, hi0, hz0, hz1, hz2⟩ := info_parts infoPt
  have HO0 := Lib.hid ((MkOut.refl h).alloc (.cells (ryCells t).toArray 46))
  have HK := Lib.hid hk
  have HGE : Hid (B ≤ w.heap.size) := h.ge
  have HOP : Hid (∀ W, MkOut B w W M st most → Calls Tryd.prog 63 #[.pointer (some ⟨M, 0, none⟩), .agg (ryCells t).toArray, .int .i64 tw] W fun e w' => e = .returned (.agg (ptC (openP t tw st).1 t.kids.length t.a t.cap).toArray) ∧ MkOut B W w' M (openP t tw st).2 most) := fun W hW => by
    obtain ⟨v5, hv5⟩ := hW.maker
    exact opened_any M B v5 st most t tw W hv5 (by omega)
  have HRB := Lib.hid (Blk.new w 46 (ryCells t).toArray)
  obtain ⟨R, hR⟩ : ∃ R, R = towardR t tw st := ⟨_, rfl⟩
  have HR0 : Hid (finishP (stackP [] ⟨(openP t tw st).1, t.kids, t.a, t.cap⟩) (openP t tw st).2 = R) := by
    show _ = _
    rw [hR, towardR_eq]
    exact finish_one _ _ _
  have HLF : Hid (leftP (stackP [] ⟨(openP t tw st).1, t.kids, t.a, t.cap⟩) ≤ 200000) := by
    show _ ≤ _
    have : (preR t).length = 1 + (preL t.kids).length := by rw [preR_eq, List.length_cons, Nat.add_comm]
    simp [leftP, stackP]
    omega
  have HST := Lib.hid (star_open t tw st)
  have HMO : Hid (most ≤ 20000) := hmost
  rw [← hR]
  have hol : (openP t tw st).2.length ≤ st.length + 1 := by unfold openP; (repeat' split) <;> simp
  generalize openP t tw st = P at *
  obtain ⟨pq, st1⟩ := P
  dsimp only at *
  obtain ⟨n, hn⟩ : ∃ n, n = t.kids.length := ⟨_, rfl⟩
  have hdec : (ryCells t).toArray = #[.int .u8 (t.kind : Int), .int .u64 (t.s0 : Int), .int .u64 (t.s1 : Int), .int .u64 (t.s2 : Int), .int .u64 (t.s3 : Int), .slice t.a n t.cap] := by rw [hn]; rfl
  rw [hdec] at HO0 HOP HRB ⊢
  have HNL := Lib.hid hn
  clear hdec h hk hN hR hmost hn
  go_enter Tryd.func50, Tryd.ntmps50
  go_upto_region 1 with (fail)
  generalize w.alloc (.cells #[.int .u8 (t.kind : Int), .int .u64 (t.s0 : Int), .int .u64 (t.s1 : Int), .int .u64 (t.s2 : Int), .int .u64 (t.s3 : Int), .slice t.a n t.cap] 46) = W0 at *
  obtain ⟨b0, hb0⟩ : ∃ b0, b0 = w.heap.size := ⟨_, rfl⟩
  rw [← hb0] at HRB ⊢
  clear hb0
  have r0 := HRB.out.cell 0
  have r1 := HRB.out.cell 1
  have r2 := HRB.out.cell 2
  have r3 := HRB.out.cell 3
  have r4 := HRB.out.cell 4
  have r5 := HRB.out.cell 5
  simp at r0 r1 r2 r3 r4 r5
  go_wp2_with (go_at_call 63; refine (HOP.out _ HO0.out).mono ?_; rintro e w5 ⟨rfl, hout⟩; have HO5 := Lib.hid (HO0.out.trans hout); clear hout; unfold ptC)
  obtain ⟨G0, hG0⟩ : ∃ G0, G0 = leftP (stackP [] ⟨pq, t.kids, t.a, t.cap⟩) := ⟨_, rfl⟩
  have HU0 : Hid (Under B w.heap.size w (w5.alloc (.cells #[.int .u8 (pq.kind : Int), .slice t.a t.kids.length t.cap, .int .i64 pq.tw, .int .i64 pq.begin] 104)) (.slice (some ⟨w5.heap.size, 0, none⟩) 1 1) [] ⟨pq, t.kids, t.a, t.cap⟩ st1) := by
    refine ⟨?_, fun y hy => ?_, fun y hy => ?_⟩
    · refine own_of (n := 1) (Blk.new _ _ _) (by have := HO5.out.low.size; exact this) (by simp) (by simp [maxLen]) (by simp) ?_
      simp [pmC, ptC]
    · obtain rfl := List.mem_singleton.1 hy
      exact HK.out
    · obtain rfl := List.mem_singleton.1 hy
      exact HST.out
  have HM0 := Lib.hid (HO5.out.alloc (.cells #[.int .u8 (pq.kind : Int), .slice t.a t.kids.length t.cap, .int .i64 pq.tw, .int .i64 pq.begin] 104))
  have HG0 := Lib.hid hG0
  have HB0L : Hid ((st1.length : Int) ≤ max (most + 1) ((st.length : Int) + 1)) := by show _ ≤ _; omega
  have hg0 : G0 ≤ 200000 := by rw [hG0]; exact HLF.out
  clear hG0 HO5 HOP HO0 HRB r0 r1 r2 r3 r4 r5 hol hl
  go_loopg [7] G0 (fun gi u wr => ∃ (V : List Pm) (x : Pm) (st' : List NS), gi = leftP (stackP V x) ∧ gi ≤ 200000 ∧ Hid (Under B w.heap.size w wr u V x st') ∧ Hid (MkOut B w wr M st' most) ∧ Hid (finishP (stackP V x) st' = R) ∧ Hid ((st'.length : Int) ≤ max (most + 1) ((st.length : Int) + 1)))
  case atStart => exact ⟨[], _, st1, HG0.out, hg0, HU0.out, HM0.out, HR0.out, HB0L.out⟩
  case round =>
    obtain ⟨V, x, st', rfl, hgi, HU, HMK, HF, HBD⟩ := hrel
    obtain ⟨m, hm⟩ : ∃ m, m = V.length := ⟨_, rfl⟩
    have hlen : (V ++ [x]).length = m + 1 := by rw [List.length_append, hm]; rfl
    obtain ⟨g, c, hu⟩ := own_there HU.out.own (by rw [hlen]; omega)
    have hml : m ≤ 200000 := by have := left_ge (stackP V x); rw [stack_len] at this; omega
    rw [hlen] at hu
    obtain ⟨uu, huu⟩ : ∃ uu, u7 = uu := ⟨_, rfl⟩
    rw [huu] at hu HU ⊢
    subst hu
    have HTM : Hid (Calls Tryd.prog 31 #[.pointer (some ⟨M, 0, none⟩)] wr fun e w' => e = .returned (.bool (decide (most < (st'.length : Int)))) ∧ Below wr.heap.size wr w') := by
      obtain ⟨v5, hv5⟩ := HMK.out.maker
      exact tooMany_any M B v5 st' most wr hv5
    have HML := Lib.hid hm
    clear hm huu
    by_cases hmo : most < (st'.length : Int)
    · have hd : decide (most < (st'.length : Int)) = true := decide_eq_true hmo
      rw [hd] at HTM
      have HMO2 := Lib.hid hmo
      clear hd hmo
      go_wp2_with (go_at_call 31; refine HTM.out.mono ?_; rintro e w6 ⟨rfl, hb6⟩; have HM6 := Lib.hid (HMK.out.later hb6); clear hb6)
      go_ret
      refine ⟨0, st', rfl, HM6.out, HBD.out, .inr ⟨HMO2.out, ?_⟩⟩
      have h1 := finish_grows _ (stackP V x) st' rfl
      rw [HF.out] at h1
      have h2 := HMO2.out
      omega
    · have hd : decide (most < (st'.length : Int)) = false := decide_eq_false hmo
      rw [hd] at HTM
      have hsl : st'.length ≤ 20000 := by have := HMO.out; omega
      have HNM : Hid ((st'.length : Int) ≤ most) := by show _ ≤ _; omega
      clear hd hmo
      go_upto_region 3 with (go_at_call 31; refine HTM.out.mono ?_; rintro e w6 ⟨rfl, hb6⟩)
      have HM6 := Lib.hid (HMK.out.later hb6)
      have HU6 := Lib.hid (HU.out.more (KeepT.of_below hb6) (Nat.le_refl _))
      clear hb6 HU HMK HTM
      have hown := HU6.out.own
      rw [hlen, pmFlat_app] at hown
      have hcell : ∀ j u, (pmC x)[j]? = some u → w6.cell? ⟨g, m * 4 + j, none⟩ = some u ∧ w6.frozen? ⟨g, m * 4 + j, none⟩ = false := fun j u hj => own_cell hown (by
        rw [List.getElem?_append_right (by rw [pmFlat_len, ← HML.out]; omega), pmFlat_len, ← HML.out, Nat.add_sub_cancel_left]
        exact hj)
      obtain ⟨c1, f1⟩ := hcell 1 _ rfl
      have c2 := (hcell 2 _ rfl).1
      have c3 := (hcell 3 _ rfl).1
      have hidx : (m : Int) < ((m + 1 : Nat) : Int) := by omega
      have hm0 : (0 : Int) ≤ m := by omega
      have hm1 : ((m + 1 : Nat) : Int) - 1 = m := by omega
      have HCELL := Lib.hid hcell
      clear hown hcell
      rcases List.eq_nil_or_concat x.L with hL | ⟨L, k, hL⟩
      · rw [hL] at c1
        by_cases hmz : m = 0
        · have hmz' : ((m : Int) == 0) = true := by rw [beq_iff_eq]; omega
          have hV : V = [] := List.eq_nil_of_length_eq_zero (by rw [← HML.out]; exact hmz)
          have HR : Hid ((x.q.begin, st') = R) := by
            have h1 := HF.out
            rw [hV] at h1
            rw [show stackP [] x = [(x.L, x.q)] from rfl, hL, finish_end] at h1
            exact h1
          clear hmz hV
          go_wp2
          go_ret
          exact ⟨_, st', rfl, HM6.out, HBD.out, .inl ⟨HNM.out, HR.out⟩⟩
        · obtain ⟨m', hm'⟩ : ∃ m', m = m' + 1 := ⟨m - 1, by omega⟩
          obtain ⟨V', y, hVy⟩ : ∃ V' y, V = V' ++ [y] := ⟨V.dropLast, V.getLast (fun e => by have := HML.out; rw [e] at this; exact hmz this), (List.dropLast_concat_getLast _).symm⟩
          subst hVy
          have hml' : m' = V'.length := by have := HML.out; rw [List.length_append, List.length_singleton] at this; omega
          have hmz' : ((m : Int) == 0) = false := by rw [beq_eq_false_iff_ne]; omega
          have hmd : (m : Int) - 1 = (m' : Int) := by omega
          have hmi : (m' : Int) < (m : Int) + 1 := by omega
          have hm'0 : (0 : Int) ≤ m' := by omega
          have hmc : (m : Int) ≤ (c : Int) := by
            obtain ⟨_, _, _, hn, _⟩ := own_blk (show w6.ownsRow _ _ _ (.slice (some ⟨g, 0, none⟩) (m + 1) c) (m + 1) _ by have := HU6.out.own; rw [hlen] at this; exact this)
            omega
          have hjn : Hid (∀ W, Below w6.heap.size w6 W → Calls Tryd.prog 65 #[.pointer (some ⟨M, 0, none⟩), .pointer (some ⟨g, m' * 4, none⟩), .int .i64 x.q.begin] W fun e w' => (∃ r, e = .returned r) ∧ (Under B w.heap.size w w' (.slice (some ⟨g, 0, none⟩) m c) V' ⟨(joinP y.q x.q.begin st').1, y.L, y.a, y.c⟩ (joinP y.q x.q.begin st').2 ∧ MkOut B w w' M (joinP y.q x.q.begin st').2 most)) := fun W hW => by
            have hUW := HU6.out.more (KeepT.of_below hW) (Nat.le_refl _)
            have hMW := HM6.out.later hW
            obtain ⟨v5, hv5⟩ := hMW.maker
            rw [← hlen] at hUW
            obtain ⟨cur, hb, hg, hn, hc, hs, ht⟩ := own_blk hUW.own
            have hcur : ∀ j u, (pmC y)[j]? = some u → cur[m' * 4 + j]? = some u := fun j u hj => by
              have hj4 : j < 4 := (List.getElem?_eq_some_iff.1 hj).1
              have h1 : (((V' ++ [y]) ++ [x]).flatMap pmC)[m' * 4 + j]? = some u := by
                rw [pmFlat_app, pmFlat_app, List.append_assoc, List.getElem?_append_right (by rw [pmFlat_len, ← hml']; omega), pmFlat_len, ← hml', Nat.add_sub_cancel_left, List.getElem?_append_left (by show j < 4; exact hj4)]
                exact hj
              rw [← ht, List.getElem?_take, if_pos (by rw [hlen]; omega)] at h1
              simpa using h1
            refine (join_any M B g (m' * 4) v5 y.q x.q.begin st' most cur W hv5 hb (by have := HGE.out; omega) (hcur 0 _ rfl) (hcur 2 _ rfl) (hcur 3 _ rfl) (hUW.star y (by simp)) (by omega)).mono ?_
            rintro e w' ⟨hr, hj⟩
            refine ⟨hr, ?_, hMW.join hj hg⟩
            have h5 := hUW.joined hb (by rw [← hml']; exact hj.blk) (join_kind _ _ _) (star_join (hUW.star y (by simp))) (join_grows _ _ _)
            have h6 : (V' ++ [y]).length = m := by rw [List.length_append, ← hml', hm']; rfl
            rw [h6] at h5
            exact h5
          have HFJ : Hid (finishP (stackP V' ⟨(joinP y.q x.q.begin st').1, y.L, y.a, y.c⟩) (joinP y.q x.q.begin st').2 = R ∧ leftP (stackP V' ⟨(joinP y.q x.q.begin st').1, y.L, y.a, y.c⟩) < leftP (stackP (V' ++ [y]) x)) := by
            constructor
            · rw [← HF.out, stack_snoc, hL, stackP, stackP, finish_pop]
            · rw [stack_snoc, hL, stackP, stackP]
              exact left_pop _ _ _ _ _
          have HBJ : Hid (((joinP y.q x.q.begin st').2.length : Int) ≤ max (most + 1) ((st.length : Int) + 1)) := by show _ ≤ _; have := join_small y.q x.q.begin st'; have := HNM.out; omega
          generalize joinP y.q x.q.begin st' = J at *
          clear hm' hmz hml' hL
          go_upto_region 9 with (fail)
          have hwm : IntKind.i64.wrap (m' : Int) = (m' : Int) := IntWalk.i64_in _ (by omega)
          go_still_tail 9, (by kernel_rfl)
          go_wp2_with (go_at_call 65; refine (hjn.out _ (Below.refl _ _).drew).mono ?_; rintro e w7 ⟨⟨r, rfl⟩, hu7, hm7⟩; have HU7 := Lib.hid hu7; have HM7 := Lib.hid hm7; clear hu7 hm7)
          go_roundg (leftP (stackP V' ⟨J.1, y.L, y.a, y.c⟩))
          case measure => exact HFJ.out.2
          case rel => exact ⟨V', _, J.2, rfl, Nat.le_trans (Nat.le_of_lt HFJ.out.2) hgi, HU7, HM7, HFJ.out.1, HBJ⟩
      · rw [List.concat_eq_append] at hL
        rw [hL, List.length_append, List.length_singleton] at c1
        have hkids := HU6.out.kids x (by simp)
        have hLk : L.length < x.L.length := by rw [hL, List.length_append, List.length_singleton]; omega
        obtain ⟨b, off, hab, hbl, hbB, hkok, hkc, hkk⟩ := hkids.at_ hLk
        have hxk : x.L[L.length]'hLk = k := by simp [hL]
        rw [hxk] at hkok hkc hkk
        have hxc : L.length + 1 ≤ x.c := by have := hkids.len.2; rw [hL, List.length_append, List.length_singleton] at this; exact this
        have hxm : L.length < 1000000 := by
          have h1 : (x.L).length ≤ (preL x.L).length := preL_len _
          have h2 : 2 * (preL x.L).length ≤ leftP (stackP V x) := by simp [leftP, stackP]; omega
          omega
        have hLl : ((L.length : Nat) : Int) + 1 ≠ 0 := by omega
        have hLp : (0 : Int) < (L.length : Int) + 1 := by omega
        rw [hab] at c1
        obtain ⟨cu, hcu, hgw, hncap, _, _, _⟩ := own_blk (show w6.ownsRow w.heap.size 104 4 (.slice (some ⟨g, 0, none⟩) (m + 1) c) (m + 1) _ by have := HU6.out.own; rw [hlen] at this; exact this)
        have hglt : g < w6.heap.size := hcu.lt
        have hblt : b < w6.heap.size := by have := HM6.out.ge; omega
        have HNK : Hid (Calls Tryd.prog 64 #[.pointer (some ⟨g, m * 4, none⟩)] w6.drew fun e w' => e = .returned (.agg (ryCells k).toArray) ∧ (Under B w.heap.size w w' (.slice (some ⟨g, 0, none⟩) (m + 1) c) V ⟨x.q, L, x.a, x.c⟩ st' ∧ MkOut B w w' M st' most ∧ w'.cell? ⟨g, m * 4 + 2, none⟩ = some (.int .i64 x.q.tw))) := by
          have hsame : ∀ o, w6.cell? ⟨b, o, none⟩ = w.cell? ⟨b, o, none⟩ := fun o => HM6.out.low.cell (p := ⟨b, o, none⟩) hbB
          refine (nextKid_any g (m * 4) b off L.length x.c k w6.drew hglt hblt hxm c1 f1 hxc (fun j u hj => (hsame _).trans (hkc j u hj))).mono ?_
          rintro e w' ⟨rfl, hbel⟩
          have hUD := HU6.out.more (KeepT.of_below (Below.refl _ w6).drew) (Nat.le_refl _)
          rw [← hlen] at hUD ⊢
          have hT := hUD.taken hL
          have hMD := (HM6.out.drew).set (show Blk w6.drew g 104 cu from hcu) (by decide) (by decide) (by omega) (by have := HGE.out; omega) (m * 4 + 1) (.slice (some ⟨b, off, none⟩) L.length x.c)
          rw [← HML.out, hab] at hT
          have hbel2 : Below (w6.drew.setCell ⟨g, m * 4 + 1, none⟩ (.slice (some ⟨b, off, none⟩) L.length x.c)).heap.size (w6.drew.setCell ⟨g, m * 4 + 1, none⟩ (.slice (some ⟨b, off, none⟩) L.length x.c)) w' := by
            rw [show (w6.drew.setCell ⟨g, m * 4 + 1, none⟩ (.slice (some ⟨b, off, none⟩) L.length x.c)).heap.size = w6.drew.heap.size from by simp [World.setCell]]
            exact hbel
          have hUN : Under B w.heap.size w w' (.slice (some ⟨g, 0, none⟩) (V ++ [(⟨x.q, L, x.a, x.c⟩ : Pm)]).length c) V ⟨x.q, L, x.a, x.c⟩ st' := by
            rw [show (V ++ [(⟨x.q, L, x.a, x.c⟩ : Pm)]).length = (V ++ [x]).length by simp]
            have h9 := hT.more (KeepT.of_below hbel2) (Nat.le_refl _)
            rw [← hab] at h9
            exact h9
          have hcl := (hUN.cell (j := 2) rfl).1
          rw [← HML.out] at hcl
          refine ⟨rfl, ?_, hMD.later hbel2, hcl⟩
          rw [show (V ++ [x]).length = (V ++ [(⟨x.q, L, x.a, x.c⟩ : Pm)]).length by simp]
          exact hUN
        have HKD : Hid (ryOk k ∧ RyIn w (· < B) k.a k.cap k.kids) := ⟨hkok, hkk⟩
        have HOPK : Hid (∀ W, MkOut B w W M st' most → Calls Tryd.prog 63 #[.pointer (some ⟨M, 0, none⟩), .agg (ryCells k).toArray, .int .i64 x.q.tw] W fun e w' => e = .returned (.agg (ptC (openP k x.q.tw st').1 k.kids.length k.a k.cap).toArray) ∧ MkOut B W w' M (openP k x.q.tw st').2 most) := fun W hW => by
          obtain ⟨v5, hv5⟩ := hW.maker
          exact opened_any M B v5 st' most k x.q.tw W hv5 (by omega)
        have HFK : Hid (finishP (stackP (V ++ [(⟨x.q, L, x.a, x.c⟩ : Pm)]) ⟨(openP k x.q.tw st').1, k.kids, k.a, k.cap⟩) (openP k x.q.tw st').2 = R ∧ leftP (stackP (V ++ [(⟨x.q, L, x.a, x.c⟩ : Pm)]) ⟨(openP k x.q.tw st').1, k.kids, k.a, k.cap⟩) < leftP (stackP V x)) := by
          constructor
          · rw [← HF.out, stack_snoc, stackP, stackP, hL]
            exact finish_push k L x.q _ st'
          · rw [stack_snoc, stackP, stackP, hL]
            exact left_push k L _ _ _
        have HSO := Lib.hid (star_open k x.q.tw st')
        have HGR : Hid (st'.length ≤ (openP k x.q.tw st').2.length) := open_grows k x.q.tw st'
        have HBK : Hid (((openP k x.q.tw st').2.length : Int) ≤ max (most + 1) ((st.length : Int) + 1)) := by show _ ≤ _; have := open_small k x.q.tw st'; have := HNM.out; omega
        generalize openP k x.q.tw st' = P at *
        obtain ⟨kq, st2⟩ := P
        dsimp only at *
        have HC2 : Hid (w6.drew.cell? ⟨g, m * 4 + 2, none⟩ = some (.int .i64 x.q.tw)) := c2
        have c2d := HC2.out
        have HSZ : Hid (∀ W8, Under B w.heap.size w W8 (.slice (some ⟨g, 0, none⟩) (m + 1) c) V ⟨x.q, L, x.a, x.c⟩ st2 → MkOut B w W8 M st2 most → w.heap.size ≤ W8.heap.size) := fun W8 h1 h2 => h2.low.size
        clear hkids hLk hab hkok hkc hkk hxk hgw hncap hcu hL hxc hglt hblt hbB hbl
        generalize (ryCells k).toArray = KC at *
        go_upto_region 6 with (fail)
        go_cut [7] (fun u wx => ∃ (V2 : List Pm) (x2 : Pm) (st3 : List NS), Hid (Under B w.heap.size w wx u V2 x2 st3) ∧ Hid (MkOut B w wx M st3 most) ∧ Hid (finishP (stackP V2 x2) st3 = R) ∧ Hid (leftP (stackP V2 x2) < leftP (stackP V x)) ∧ Hid ((st3.length : Int) ≤ max (most + 1) ((st.length : Int) + 1)))
        case first =>
          go_region_law (first
            | (go_simp; go_at_call 64; refine HNK.out.mono ?_; rintro e w7 ⟨rfl, hu7, hm7, hc7⟩; have HU7 := Lib.hid hu7; have HM7 := Lib.hid hm7; clear hu7 hm7; go_wp2_with fail)
            | (go_simp; go_at_call 63; refine (HOPK.out _ HM7.out).mono ?_; rintro e w8 ⟨rfl, hm8⟩; have HM8 := Lib.hid (HM7.out.trans hm8); have HU8 := Lib.hid (HU7.out.more hm8.keep HGR.out); clear hm8; have HAP : Hid ((w8.alloc (.cells (#[.int .u8 (kq.kind : Int), .slice k.a k.kids.length k.cap, .int .i64 kq.tw, .int .i64 kq.begin] : Array Value) 104)).ownsRow w.heap.size 104 4 (.slice (some ⟨g, 0, none⟩) (m + 1) c) (V ++ [(⟨x.q, L, x.a, x.c⟩ : Pm)]).length ((V ++ [(⟨x.q, L, x.a, x.c⟩ : Pm)]).flatMap pmC) ∧ w.heap.size ≤ (w8.alloc (.cells (#[.int .u8 (kq.kind : Int), .slice k.a k.kids.length k.cap, .int .i64 kq.tw, .int .i64 kq.begin] : Array Value) 104)).heap.size ∧ Blk (w8.alloc (.cells (#[.int .u8 (kq.kind : Int), .slice k.a k.kids.length k.cap, .int .i64 kq.tw, .int .i64 kq.begin] : Array Value) 104)) w8.heap.size 104 (pmC ⟨kq, k.kids, k.a, k.cap⟩).toArray ∧ (V ++ [(⟨x.q, L, x.a, x.c⟩ : Pm)]).length ≤ 1000000) := ⟨HU8.out.own.alloc _, (by have := HSZ.out w8 HU8.out HM8.out; rw [World.size_alloc]; omega), Blk.new _ _ _, (by rw [List.length_append, ← HML.out]; simp; omega)⟩; unfold ptC; go_wp2_with fail)
            | (refine step_pm rfl (.tmp 30) (.tmp 39) rfl w.heap.size (.slice (some ⟨g, 0, none⟩) (m + 1) c) (V ++ [(⟨x.q, L, x.a, x.c⟩ : Pm)]) ⟨kq, k.kids, k.a, k.cap⟩ (by simp [Act.eval, Act.put]) HAP.out.1 HAP.out.2.1 w8.heap.size (by simp [Act.eval, Act.put]) HAP.out.2.2.1 HAP.out.2.2.2 ?_; intro v9 w9 hown9 hg9; have HE := Lib.hid (grown_under HU8.out HM8.out HAP.out.1 HAP.out.2.1 hown9 hg9 HKD.out.2 HSO.out HGE.out); clear hown9 hg9))
          all_goals go_wp2
          all_goals go_meet
          all_goals exact ⟨_, _, st2, HE.out.1, HE.out.2, HFK.out.1, HFK.out.2, HBK.out⟩
        case rest =>
          obtain ⟨V2, x2, st3, HU9, HM9, HF9, HL9, HB9⟩ := hcut
          go_wp2
          go_roundg (leftP (stackP V2 x2))
          case measure => exact HL9.out
          case rel => exact ⟨V2, x2, st3, rfl, Nat.le_trans (Nat.le_of_lt HL9.out) hgi, HU9, HM9, HF9.out, HB9⟩
end Go.Proofs.YtdckjjkaoecgaaaDoor
