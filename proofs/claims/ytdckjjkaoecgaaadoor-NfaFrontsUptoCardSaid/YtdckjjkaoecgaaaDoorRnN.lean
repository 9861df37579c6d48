/-
  The contract of regex.nodes' iterator: the nodes of a regular tree, itself ahead. Conditions: at most 1100000 nodes.
-/
import Derived.Test.YtdckjjkaoecgaaaDoorRnM
namespace Go.Proofs.YtdckjjkaoecgaaaDoor
open Go.RowKit Go.Shelf

attribute [local go_sem] Oper.semAt_some

def NdI (W : World) (X : Nat → Prop) (t : Ry) (q : Nat) (J : List (Fin q) → World → Prop) (m : Nat) (v : Value) (w : World) : Prop :=
  ∃ (k : Nat) (h : k ≤ q) (g c : Nat) (st : List Ent), m = 2 * (q - k) + st.length ∧ v = .slice (some ⟨g, 0, none⟩) st.length c ∧ Stk (fun b => b < W.heap.size + 1 ∧ ¬ X b) (W.heap.size + 1) t k g c st w ∧ J (finTo q k h) w ∧ W.heap.size + 1 ≤ w.heap.size
theorem infoRes : (Tryd.prog.info? 22).map (fun i => (i.zero, i.size, i.bytes)) = some (some (.slice none 0 0), 1, 24) := by kernel_rfl
theorem NdI.step {W : World} {X : Nat → Prop} {t : Ry} {q : Nat} {J : List (Fin q) → World → Prop} {m m' : Nat} {v v' : Value} {w w' : World} (h : NdI W X t q J m' v' w') (hlt : m' < m) (hm : m = leastOf fun m => NdI W X t q J m v w) :
    (∃ m, NdI W X t q J m v' w') ∧ (leastOf fun m => NdI W X t q J m v' w') < leastOf fun m => NdI W X t q J m v w :=
  ⟨⟨m', h⟩, by rw [← hm]; exact Nat.lt_of_le_of_lt ((leastOf_spec ⟨m', h⟩).2 m' h) hlt⟩
set_option maxRecDepth 100000 in
set_option maxHeartbeats 4000000 in
theorem nodes1_in (n : Nat) (hn : 1 ≤ n) (l Bx : Nat) (t : Ry) (q : Nat) (hq : (preR t).length = q) (hq2 : q ≤ 1100000) (X : Nat → Prop) (J Jx : List (Fin q) → World → Prop) (W : World) (hX : ∀ b, X b → b < W.heap.size) (hok : ryOk t)
    (hk : RyIn W (fun b => b < W.heap.size ∧ ¬ X b) t.a t.cap t.kids) (hbx : Blk W Bx 46 (ryCells t).toArray)
    (hJ : ∀ s A B, J s A → Below W.heap.size A B → J s B)
    (hY : ∀ pre (x : Fin q) W1, J pre W1 → W.heap.size ≤ W1.heap.size → pre.length < q → YieldAt Fence.wide (n - 1) Tryd.prog l #[.agg (ryCells ((preR t)[x.val]'(by have := x.isLt; omega))).toArray] W1 fun e W' =>
      (e = .returned (.bool true) ∧ J (pre ++ [x]) W' ∧ KeepX X W1 W') ∨ (e = .returned (.bool false) ∧ Jx (pre ++ [x]) W'))
    (h0 : J [] W) :
    CallsIn Fence.wide n Tryd.prog 62 #[.func (.yield l) #[] #[], .pointer (some ⟨Bx, 0, none⟩)] W fun e W' => (∃ v, e = .returned v) ∧
      ((∃ ys, ys = finTo q q (Nat.le_refl _) ∧ J ys W') ∨ (∃ pre, (∃ k, ∃ h : k ≤ q, pre = finTo q k h) ∧ Jx pre W')) := by
  have b0 := hbx.cell 0
  have b1 := hbx.cell 1
  have b2 := hbx.cell 2
  have b3 := hbx.cell 3
  have b4 := hbx.cell 4
  have b5 := hbx.cell 5
  unfold ryCells at b0 b1 b2 b3 b4 b5
  refine callsIn_of_wp Tryd.func62 rfl trivial ?_ rfl
  simp only [Tryd.ntmps62, List.size_toArray, List.length_cons, List.length_nil, Nat.reduceAdd, Nat.reduceSub, Array.replicate_succ, Array.replicate_zero, List.push_toArray, List.append_toArray, List.nil_append, List.cons_append]
  have HBX := Lib.hid hbx
  have HK := Lib.hid hk
  have HJ := Lib.hid hJ
  have HY := Lib.hid hY
  have H0 := Lib.hid h0
  have HX := Lib.hid hX
  clear hbx hk hJ hY h0 hX
  gi_wp2
  gi_loopw [3] (fun v wr => ∃ m, NdI W X t q J m v wr) (fun v wr => leastOf fun m => NdI W X t q J m v wr)
  case atStart =>
    have hb : Below W.heap.size W ((W.alloc (.cells (ryCells t).toArray 46)).alloc (.cells #[.slice (some ⟨W.heap.size, 0, none⟩) 1 1] 22)) := ((Below.refl _ W).alloc (Nat.le_refl _) _).alloc (by simp) _
    have hr0 := HK.out
    refine ⟨_, 0, Nat.zero_le _, W.heap.size + 1, 1, [(some ⟨W.heap.size, 0, none⟩, 1, [t])], rfl, rfl, ?_, HJ.out _ _ _ H0.out hb, by simp⟩
    refine Stk.start (Blk.new_at _ _ _ _ (by simp)) (Nat.le_refl _) ((Blk.new _ _ _).alloc _) ⟨by omega, fun hx => by have := HX.out _ hx; omega⟩ hok ?_
    exact hr0.later hb.size (fun b hlt hS => ⟨⟨by omega, hS.2⟩, hb.block b hlt⟩)
  case round =>
    obtain ⟨hI, -⟩ := leastOf_spec hrel
    obtain ⟨m0, hm0⟩ : ∃ m0, m0 = leastOf fun m => NdI W X t q J m u3 wr := ⟨_, rfl⟩
    rw [← hm0] at hI
    have HM0 := Lib.hid hm0
    clear hm0 hrel b0 b1 b2 b3 b4 b5
    obtain ⟨k, hkq, g, c, st, hm, rfl, hs, hj, hsz⟩ := hI
    have HM := Lib.hid hm
    have HJ0 := Lib.hid hj
    have HL := Lib.hid hs.len
    obtain ⟨cur, hg, hgb, hnc, hcm, hcs, -⟩ := hs.row
    have HCM : Hid (st.length ≤ c ∧ c ≤ maxLen ∧ c ≤ 9223372036854775807) := ⟨hnc, hcm, by unfold maxLen at hcm; omega⟩
    have HGB := Lib.hid hgb
    have HG := Lib.hid hg
    clear hm hj hg hgb hnc hcm hcs
    rcases List.eq_nil_or_concat st with rfl | ⟨st', e, rfl⟩
    · have hkk : k = q := by
        have := congrArg List.length hs.pend
        simp [pendS] at this
        omega
      subst hkk
      clear hs HM HL HCM HGB HG HM0
      gi_wp2
      go_end0
      exact ⟨⟨_, rfl⟩, .inl ⟨_, rfl, HJ0.out⟩⟩
    · obtain ⟨a, cc, ks⟩ := e
      rw [List.concat_eq_append] at *
      obtain ⟨hl1, hl2, hl3⟩ := hs.last
      have HS := Lib.hid hs
      have HL3 := Lib.hid hl3
      clear hs hl3
      have hlen : (st' ++ [(a, cc, ks)]).length = st'.length + 1 := by simp
      rw [hlen]
      rw [hlen] at HCM HL HM HM0
      simp only [entV] at hl1
      obtain ⟨n1, hn1⟩ : ∃ n1, n1 = st'.length + 1 := ⟨_, rfl⟩
      obtain ⟨n0, hn0⟩ : ∃ n0, n0 = st'.length := ⟨_, rfl⟩
      rw [← hn1]
      rw [← hn0] at hl1 hl2 hn1
      have hp1 : ((0 : Int) < (n1 : Int)) := by omega
      have hp2 : (n1 : Int) - 1 = (n0 : Int) := by omega
      have hp3 : (n0 : Int) < (n1 : Int) := by omega
      have hp4 : (0 : Int) ≤ (n0 : Int) := by omega
      have hp5 : (n1 : Int) ≤ 1100001 := by have := HL.out; omega
      have HNE : Hid (n1 = n0 + 1 ∧ n0 = st'.length) := ⟨hn1, hn0⟩
      have HLEN := Lib.hid hlen
      rw [← hn0, ← hn1] at HCM HM0
      clear hn0 hn1 hlen
      cases ks with
      | nil =>
        have hsl : ∀ W, (Instr.slice 102 (.slice (some ⟨g, 0, none⟩) n1 c) none (some (.int .i64 (n0 : Int))) none).run Tryd.prog W = .ok (.slice (some ⟨g, 0, none⟩) n0 c) W := fun W => by
          have h1 := HCM.out
          have h2 := HNE.out
          rw [run_slice_h W 102 _ _ _ (by kernel_rfl) .i64 (n0 : Int) (by omega) (by omega)]
          have : ∀ W, (sizeOf (Tryd.prog.elem 102)).run Tryd.prog W = .ok 1 W := fun W => by kernel_rfl
          rw [this]
          unfold sliced
          have h0 : (⟨g, 0, none⟩ : Addr).add 0 = ⟨g, 0, none⟩ := by rw [Addr.add_lit]
          simp [Result.andThen, h0]
        gi_wp2
        have he := HNE.out
        have hM := HM.out
        refine NdI.step (m' := 2 * (q - k) + st'.length) (m := m0) ⟨k, hkq, g, c, st', rfl, by rw [he.2], ?_, HJ0.out, hsz⟩ (by rw [hM]; omega) HM0.out
        exact HS.out.pop rfl
      | cons x rest =>
        obtain ⟨b, off, rfl, hbl, hbS, hxok, hxc, hxk, h1c, hrest⟩ := HL3.out.head
        have HX3 : Hid ((b < W.heap.size + 1 ∧ ¬ X b) ∧ ryOk x) := ⟨hbS, hxok⟩
        have HXK := Lib.hid hxk
        have HRE := Lib.hid hrest
        have c0 := hxc 0
        have c1 := hxc 1
        have c2 := hxc 2
        have c3 := hxc 3
        have c4 := hxc 4
        have c5 := hxc 5
        unfold ryCells at c0 c1 c2 c3 c4 c5
        simp at c0 c1 c2 c3 c4 c5
        simp only [List.length_cons] at hl1
        have hcl : rest.length + 1 ≤ cc := HL3.out.len.2
        have HCL := Lib.hid hcl
        clear hbl hbS hxok hxk hrest hxc HL3 hcl
        obtain ⟨r1, hr1⟩ : ∃ r1, r1 = rest.length + 1 := ⟨_, rfl⟩
        rw [← hr1] at hl1
        have hr0 : ¬ (r1 : Int) = 0 := by omega
        have hr2 : (0 : Int) < r1 := by omega
        obtain ⟨a', ha'⟩ : ∃ a' : Option Addr, a' = if cc = 1 then some ⟨b, off, none⟩ else some ⟨b, off + 6, none⟩ := ⟨_, rfl⟩
        obtain ⟨r0, hr0'⟩ : ∃ r0, r0 = rest.length := ⟨_, rfl⟩
        obtain ⟨cd, hcd⟩ : ∃ cd, cd = cc - 1 := ⟨_, rfl⟩
        have hsl : ∀ W, (Instr.slice 22 (.slice (some ⟨b, off, none⟩) r1 cc) (some (.int .i64 1)) none none).run Tryd.prog W = .ok (.slice a' r0 cd) W := fun W => by
          rw [run_slice_l W 22 _ _ _ (by kernel_rfl) .i64 (1 : Int) (by omega) (by omega)]
          have : ∀ W, (sizeOf (Tryd.prog.elem 22)).run Tryd.prog W = .ok 6 W := fun W => by kernel_rfl
          rw [this, ha', hr0', hcd]
          unfold sliced
          have h0 : (⟨b, off, none⟩ : Addr).add 6 = ⟨b, off + 6, none⟩ := by rw [Addr.add_mid]
          simp [Result.andThen, h0]
          omega
        have HAE : Hid (r1 = rest.length + 1 ∧ r0 = rest.length ∧ cd = cc - 1 ∧ a' = if cc = 1 then some ⟨b, off, none⟩ else some ⟨b, off + 6, none⟩) := ⟨hr1, hr0', hcd, ha'⟩
        clear hr1 hr0' hcd ha'
        obtain ⟨k0, e0⟩ : ∃ k0, k0 = x.kids.length := ⟨_, rfl⟩
        have HE0 := Lib.hid e0
        rw [← e0] at c5
        clear e0
        have hgl : g < wr.heap.size := HG.out.lt
        have d1 : ∀ o, (wr.alloc o).cell? ⟨g, n0, none⟩ = some (.slice (some ⟨b, off, none⟩) r1 cc) := fun o => (World.cell?_of_block (w := wr) (Below.heap_alloc wr o g hgl)).trans hl1
        have d2 : ∀ o, (wr.alloc o).frozen? ⟨g, n0, none⟩ = false := fun o => (HG.out.alloc o).frozen _
        have hne : ¬ g = wr.heap.size := by omega
        have hne2 : ¬ wr.heap.size = g := by omega
        have HT := Lib.hid (HS.out.take (a' := a') (w' := wr.setCell ⟨g, n0, none⟩ (.slice a' r0 cd)) (by rw [HNE.out.2, HAE.out.2.1, HAE.out.2.2.1]) (fun b hb => hb.1) (HRE.out a' (fun h => by
          have h1 := HAE.out.2.2.2
          rw [h1, if_neg (by have := HCL.out; omega)])))
        rw [← HAE.out.2.2.1] at HT
        obtain ⟨V, hV⟩ : ∃ V, V = (wr.setCell ⟨g, n0, none⟩ (.slice a' r0 cd)).alloc (.cells #[.int .u8 (x.kind : Int), .int .u64 (x.s0 : Int), .int .u64 (x.s1 : Int), .int .u64 (x.s2 : Int), .int .u64 (x.s3 : Int), .slice x.a k0 x.cap] 46) := ⟨_, rfl⟩
        have hbS : Below (W.heap.size + 1) (wr.setCell ⟨g, n0, none⟩ (.slice a' r0 cd)) V := by rw [hV]; exact (Below.refl _ _).alloc (by have := HT.out.2.2.2.2.size; omega) _
        have hbV : Below (W.heap.size + 1) wr V := HT.out.2.2.2.2.trans hbS
        obtain ⟨hkl, hxe⟩ := List.getElem?_eq_some_iff.1 HT.out.2.2.2.1
        rw [hq] at hkl
        have hJV : J (finTo q k hkq) V := HJ.out _ _ _ HJ0.out (hbV.mono (by omega))
        have hY2 : YieldAt Fence.wide (n - 1) Tryd.prog l #[.agg #[.int .u8 (x.kind : Int), .int .u64 (x.s0 : Int), .int .u64 (x.s1 : Int), .int .u64 (x.s2 : Int), .int .u64 (x.s3 : Int), .slice x.a k0 x.cap]] V fun e W' =>
            (e = .returned (.bool true) ∧ J (finTo q k hkq ++ [⟨k, hkl⟩]) W' ∧ KeepX X V W') ∨ (e = .returned (.bool false) ∧ Jx (finTo q k hkq ++ [⟨k, hkl⟩]) W') := by
          have := HY.out (finTo q k hkq) ⟨k, hkl⟩ V hJV (by have := hbV.size; omega) (by rw [finTo_len]; exact hkl)
          rw [show (preR t)[(⟨k, hkl⟩ : Fin q).val]'(by omega) = x from hxe] at this
          rw [HE0.out]
          exact this
        obtain ⟨fn, tmps, assign, body, hy, hR⟩ := hY2
        have hB0 : Blk V wr.heap.size 46 #[.int .u8 (x.kind : Int), .int .u64 (x.s0 : Int), .int .u64 (x.s1 : Int), .int .u64 (x.s2 : Int), .int .u64 (x.s3 : Int), .slice x.a k0 x.cap] := by rw [hV]; exact Blk.new_at _ _ _ _ (by simp [World.setCell])
        have HV : Hid (Below (W.heap.size + 1) (wr.setCell ⟨g, n0, none⟩ (.slice a' r0 cd)) V ∧ Below (W.heap.size + 1) wr V ∧ Blk V wr.heap.size 46 #[.int .u8 (x.kind : Int), .int .u64 (x.s0 : Int), .int .u64 (x.s1 : Int), .int .u64 (x.s2 : Int), .int .u64 (x.s3 : Int), .slice x.a k0 x.cap] ∧
            V = (wr.setCell ⟨g, n0, none⟩ (.slice a' r0 cd)).alloc (.cells #[.int .u8 (x.kind : Int), .int .u64 (x.s0 : Int), .int .u64 (x.s1 : Int), .int .u64 (x.s2 : Int), .int .u64 (x.s3 : Int), .slice x.a k0 x.cap] 46)) := ⟨hbS, hbV, hB0, hV⟩
        clear hbS hbV hxe hJV hB0
        rw [hV] at hy hR
        clear hV
        gi_wp2
        refine hR.mono ?_
        clear hR hy
        rintro e W3 (⟨rfl, hJ3, hk3⟩ | ⟨rfl, hJx3⟩)
        · rw [← HV.out.2.2.2] at hk3
          have f5 : W3.cell? ⟨wr.heap.size, 5, none⟩ = some (.slice x.a k0 x.cap) := hk3.cell (p := ⟨wr.heap.size, 5, none⟩) (fun hx => by have h : wr.heap.size < W.heap.size := HX.out _ hx; omega) (HV.out.2.2.1.cell 5)
          have hown3 : W3.ownsRow (W.heap.size + 1) 22 1 (.slice (some ⟨g, 0, none⟩) n1 c) n1 ((st' ++ [(a', cd, rest)]).map entV) := by
            have h1 := HT.out.1
            rw [← HNE.out.2, ← HNE.out.1] at h1
            have h2 : V.ownsRow (W.heap.size + 1) 22 1 (.slice (some ⟨g, 0, none⟩) n1 c) n1 ((st' ++ [(a', cd, rest)]).map entV) := by rw [HV.out.2.2.2]; exact h1.alloc _
            exact ownsRow_keepX h2 hk3 (fun b hb => by have := HX.out b hb; omega)
          have HO3 := Lib.hid hown3
          have HI3 : Hid (∀ e ∈ (st' ++ [(a', cd, rest)]) ++ [(x.a, x.cap, x.kids)], RyIn W3 (fun b => b < W.heap.size + 1 ∧ ¬ X b) e.1 e.2.1 e.2.2) := by
            have h1 : ∀ e ∈ (st' ++ [(a', cd, rest)]), RyIn W3 (fun b => b < W.heap.size + 1 ∧ ¬ X b) e.1 e.2.1 e.2.2 := fun e he => ((HT.out.2.1 e he).later HV.out.1.size (fun b _ hSb => ⟨hSb, HV.out.1.block b hSb.1⟩)).keepX hk3 (fun b hb => hb.2)
            have h2 : RyIn W3 (fun b => b < W.heap.size + 1 ∧ ¬ X b) x.a x.cap x.kids := (HXK.out.later HV.out.2.1.size (fun b _ hSb => ⟨hSb, HV.out.2.1.block b hSb.1⟩)).keepX hk3 (fun b hb => hb.2)
            intro e he
            rcases List.mem_append.1 he with he | he
            · exact h1 e he
            · obtain rfl := List.mem_singleton.1 he
              exact h2
          have HJ3 : Hid (J (finTo q (k + 1) hkl) W3) := hJ3
          have hs3 : W.heap.size + 1 ≤ W3.heap.size := Nat.le_trans (Nat.le_trans hsz HV.out.2.1.size) hk3.size
          have HS3 := Lib.hid hs3
          clear hJ3 hk3 hown3 d1 d2
          obtain ⟨i0, hi0, hz0, hz1, hz2⟩ := info_parts infoRes
          gi_wp2_with (gi_at_builtin; refine wpListIn_append_own _ rfl _ _ 102 rfl (W.heap.size + 1) 22 i0 (.slice none 0 0) 1 24 Tryd.underlying102 hi0 hz0 hz1 hz2 rfl (by decide) _ _ _ rfl (HO3.out.alloc _) ⟨W3.heap.size, 0, none⟩ 1 1 [.slice x.a k0 x.cap] rfl rfl (cell_one_new _ _ _) (by simp [Value.oneCell']) (by unfold maxLen; omega) (by omega) (by have := HS3.out; simp; omega) ?_; intro v' w4 hown4 hg4 _; obtain ⟨g', cap', rfl⟩ := ownsRow_succ hown4)
          have hg5 : (W3.alloc (.cells #[.slice x.a k0 x.cap] 22)).grownBy w4 (some g) := hg4
          have hb4 : Below (W.heap.size + 1) W3 w4 := ((Below.refl _ W3).alloc HS3.out _).grown hg5 (by have := HS3.out; simp; omega) (fun r hr => by
            injection hr with hr
            have := HGB.out
            omega)
          have he := HNE.out
          have hM := HM.out
          have hlen3 : ((st' ++ [(a', cd, rest)]) ++ [(x.a, x.cap, x.kids)]).length = n1 + 1 := by simp; omega
          refine NdI.step (m' := 2 * (q - (k + 1)) + (n1 + 1)) (m := m0) ⟨k + 1, hkl, g', cap', (st' ++ [(a', cd, rest)]) ++ [(x.a, x.cap, x.kids)], by rw [hlen3], by rw [hlen3], ⟨?_, ?_, ?_, ?_⟩, HJ.out _ _ _ HJ3.out (hb4.mono (by omega)), Nat.le_trans HS3.out hb4.size⟩ (by rw [hM]; omega) HM0.out
          · rw [hlen3, List.map_append]
            rw [HE0.out] at hown4
            exact hown4
          · exact fun e he => (HI3.out e he).later hb4.size (fun b _ hSb => ⟨hSb, hb4.block b hSb.1⟩)
          · exact HT.out.2.2.1.trans (pendS_snoc (st' ++ [(a', cd, rest)]) (x.a, x.cap, x.kids)).symm
          · rw [hlen3]
            have := HL.out
            omega
        · gi_wp2
          refine bodyPost_ret (results_none rfl _ _ _) rfl ?_
          exact ⟨⟨_, rfl⟩, .inr ⟨_, ⟨k + 1, hkl, rfl⟩, hJx3⟩⟩
end Go.Proofs.YtdckjjkaoecgaaaDoor
