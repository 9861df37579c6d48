/-
  The contract of frankingref06.Sets: the sets of a tree. Conditions: the tree lies in memory; at most 100000 nodes.
-/
import Derived.Test.YtlaccbkhlkomhaaOrP
import Derived.Laws.AppendOwnNone
namespace Go.Proofs.Ytlaccbkhlkomhaa
open Go.RowKit

theorem setCells_ints (V : List St) : ∀ u ∈ setCells V, u.oneCell' = true := by
  intro u hu
  obtain ⟨s, _, h⟩ := List.mem_flatMap.1 hu
  simp only [setC, List.mem_cons, List.not_mem_nil, or_false] at h
  rcases h with rfl | rfl | rfl | rfl <;> rfl
/-- sets behind sets, each a row of its own -/
theorem wpList_app_sets {W : World} {ops : Array Oper} {rest : List Oper} {o : Oper} {a : Act} {Q : Exit → Act → World → Prop} (hgd : o.guard = none) (s x : Operand)
    (ho : o.op = .call { callee := .builtin .append, args := #[s, x], argTypes := #[43, 43] })
    (B B2 : Nat) (v v2 : Value) (U V : List St) (hs : a.eval s = v) (hown : W.ownsRow B 28 4 v U.length (setCells U)) (hx : a.eval x = v2) (hown2 : W.ownsRow B2 28 4 v2 V.length (setCells V)) (hl : U.length + V.length ≤ 200000) (hbase : B ≤ W.heap.size)
    (h : ∀ v' w', w'.ownsRow B 28 4 v' (U ++ V).length (setCells (U ++ V)) → W.grownBy w' v.ownBlock → wpList Try.prog ops Q rest (a.put o.dst v') w') : wpList Try.prog ops Q (o :: rest) a W := by
  obtain ⟨i0, hi0, hz0, hz1, hz2⟩ := info_parts infoSet
  rw [setCells_app, List.length_append] at h
  rcases hown2.2 with ⟨e2, h0⟩ | ⟨g, cap, cur, e2, _, hb, _, _, _, ht⟩
  · subst e2
    have hV : V = [] := List.eq_nil_of_length_eq_zero h0
    subst hV
    refine wpList_append_own_none hgd s x 43 ho B 28 i0 4 Try.underlying43 hi0 v U.length (setCells U) hs hown hx (h v W ?_ ⟨rfl, rfl, rfl, Nat.le_refl _, fun _ _ _ => rfl⟩)
    rw [show setCells [] = [] from rfl, List.append_nil]
    exact hown
  · subst e2
    refine wpList_append_own _ hgd s x 43 ho B 28 i0 (.agg #[.int .u64 0, .int .u64 0, .int .u64 0, .int .u64 0]) 4 32 Try.underlying43 hi0 hz0 hz1 hz2 rfl (by decide) v U.length (setCells U) hs hown ⟨g, 0, none⟩ V.length cap (setCells V) hx (setCells_len V) ?_ (setCells_ints V) (by unfold maxLen; omega) (by omega) hbase (fun v' w' h1 h2 _ => h v' w' h1 h2)
    intro j u hj
    rw [Addr.add_lit, Nat.zero_add, cell_of_row W g _ cur 28 (0, 0) hb, ← hj, ← ht]
    have hl : (setCells V).length = V.length * 4 := setCells_len V
    have hj2 : j < V.length * 4 := by rw [← hl]; exact (List.getElem?_eq_some_iff.1 hj).1
    rw [List.getElem?_take, if_pos hj2]
    simp
def RSSpec (w : World) (t : Ry) : Prop := (preR t).length ≤ 100000 → ∀ W, Below w.heap.size w W → Calls Try.prog 30 #[.agg (ryCells t).toArray] W fun e w2 => ∃ v2, e = .returned v2 ∧ w2.ownsRow W.heap.size 28 4 v2 (setsL [t]).length (setCells (setsL [t])) ∧ Below W.heap.size W w2
set_option maxRecDepth 100000 in
set_option maxHeartbeats 4000000 in
theorem rSets_step {w : World} {S : Nat → Prop} (t : Ry) (h : RyIn w S t.a t.cap t.kids) (ih : ∀ x ∈ t.kids, RSSpec w x) : RSSpec w t := by
  obtain ⟨i0, hi0, hz0, hz1, hz2⟩ := info_parts infoSet
  intro hN w' hb
  have HH := Lib.hid h
  have HIH := Lib.hid ih
  have HB := Lib.hid hb
  have hpl : (preR t).length = 1 + (preL t.kids).length := by rw [preR_eq, List.length_cons, Nat.add_comm]
  have hkl := preL_len t.kids
  obtain ⟨n, hn⟩ : ∃ n, n = t.kids.length := ⟨_, rfl⟩
  have HN := Lib.hid hn
  have hn9 : n ≤ 100000 := by omega
  have hv9 : 1 + (preL t.kids).length ≤ 100000 := by omega
  have HONE := Lib.hid (setsL_one t)
  have HBX := Lib.hid (Blk.new w' 42 (ryCells t).toArray)
  have HLW : Hid (Below w'.heap.size w' (w'.alloc (.cells (ryCells t).toArray 42))) := (Below.refl _ _).alloc (Nat.le_refl _) _
  have hlt0 : w'.heap.size < (w'.alloc (.cells (ryCells t).toArray 42)).heap.size := by simp
  unfold ryCells at HBX HLW hlt0 ⊢
  rw [← hn] at HBX HLW hlt0 ⊢
  clear h ih hb hN hpl hkl hn
  go_enter Try.func30, Try.ntmps30
  go_upto_region 1 with (fail)
  generalize (w'.alloc (.cells #[.int .u8 (t.kind : Int), .int .u64 (t.s0 : Int), .int .u64 (t.s1 : Int), .int .u64 (t.s2 : Int), .int .u64 (t.s3 : Int), .slice t.a n t.cap] 42)) = W0 at *
  have HLT0 := Lib.hid hlt0
  clear hlt0
  obtain ⟨B0, hB0⟩ : ∃ B0, B0 = w'.heap.size := ⟨_, rfl⟩
  have HB0 := Lib.hid hB0
  rw [← hB0] at HBX HLT0 ⊢
  clear hB0
  have t0 := HBX.out.cell 0
  have t1 := HBX.out.cell 1
  have t2 := HBX.out.cell 2
  have t3 := HBX.out.cell 3
  have t4 := HBX.out.cell 4
  have t5 := HBX.out.cell 5
  simp at t0 t1 t2 t3 t4 t5
  go_upto_if 7 with (fail)
  go_cut [3] (fun v1 wx => Hid (∃ V1 : List St, V1 = (if t.kind = 1 then [t.set] else []) ∧ wx.ownsRow B0 28 4 v1 V1.length (setCells V1) ∧ Below B0 w' wx ∧ Blk wx B0 42 #[.int .u8 (t.kind : Int), .int .u64 (t.s0 : Int), .int .u64 (t.s1 : Int), .int .u64 (t.s2 : Int), .int .u64 (t.s3 : Int), .slice t.a n t.cap]))
  case first =>
    have hlw : Below B0 w' W0 := by rw [HB0.out]; exact HLW.out
    have HL := Lib.hid hlw
    clear hlw
    by_cases h1 : t.kind = 1
    · have h1' : ((t.kind : Int) == 1) = true := by rw [beq_iff_eq]; omega
      have HK1 := Lib.hid h1
      clear h1
      go_wp2_with (at_builtin; refine wpList_append_own _ rfl _ _ 43 rfl B0 28 i0 (.agg #[.int .u64 0, .int .u64 0, .int .u64 0, .int .u64 0]) 4 32 Try.underlying43 hi0 hz0 hz1 hz2 rfl (by decide) _ 0 [] rfl (World.ownsRow_nil _ _ _ _) ⟨W0.heap.size, 0, none⟩ 1 1 [.int .u64 (t.s0 : Int), .int .u64 (t.s1 : Int), .int .u64 (t.s2 : Int), .int .u64 (t.s3 : Int)] rfl rfl ?c1 ?c2 ?c3 ?c4 ?c5 ?_; rotate_left 5; intro v' w4 hown4 hg4 _; have HO4 := Lib.hid hown4; have HG4 := Lib.hid hg4; clear hown4 hg4)
      case c1 =>
        intro j u hj
        rw [Addr.add_lit, Nat.zero_add, (Blk.new W0 28 #[.int .u64 (t.s0 : Int), .int .u64 (t.s1 : Int), .int .u64 (t.s2 : Int), .int .u64 (t.s3 : Int)]).cell j]
        simpa using hj
      case c2 => simp [Value.oneCell']
      case c3 => unfold maxLen; omega
      case c4 => omega
      case c5 => have := HLT0.out; rw [World.size_alloc]; omega
      go_meet
      refine ⟨[t.set], by rw [if_pos HK1.out], ?_, ?_, ?_⟩
      · rw [setCells_one]
        exact HO4.out
      · refine HL.out.trans (((Below.refl B0 W0).alloc (Nat.le_of_lt HLT0.out) _).grown HG4.out (by have := HLT0.out; rw [World.size_alloc]; omega) (fun r hr => by cases hr))
      · exact (HBX.out.alloc _).kept HG4.out (by intro h; have h : some B0 = none := h; cases h)
    · have h1' : ¬ (t.kind : Int) = 1 := by omega
      go_wp2
      go_meet
      exact ⟨[], by rw [if_neg h1], World.ownsRow_nil _ _ _ _, HL.out, HBX.out⟩
  case rest =>
    obtain ⟨V1, hV1, ho1, hb1, hx1⟩ := hcut
    have hl1 : V1.length ≤ 1 := by rw [hV1]; split <;> simp
    have HV1 := Lib.hid hV1
    have HO1 := Lib.hid ho1
    have HB1 := Lib.hid hb1
    have HX1 := Lib.hid hx1
    clear hV1 ho1 hb1 hx1 t0 t1 t2 t3 t4 t5 HBX HLW HLT0
    go_wp2
    go_loopw [3, 4] (fun v2 i wr => ∃ k : Nat, k ≤ n ∧ i = .int .i64 k ∧ Hid (wr.ownsRow B0 28 4 v2 (V1 ++ setsL (t.kids.take k)).length (setCells (V1 ++ setsL (t.kids.take k)))) ∧ Hid (Below B0 w' wr ∧ Blk wr B0 42 #[.int .u8 (t.kind : Int), .int .u64 (t.s0 : Int), .int .u64 (t.s1 : Int), .int .u64 (t.s2 : Int), .int .u64 (t.s3 : Int), .slice t.a n t.cap])) (fun _ i _ => n - (intOf i).toNat)
    case atStart => exact ⟨0, Nat.zero_le _, rfl, by rw [List.take_zero, setsL_nil, List.append_nil]; exact HO1.out, HB1.out, HX1.out⟩
    case round =>
      obtain ⟨k, hk, rfl, HO, HBL⟩ := hrel
      obtain ⟨o, ho⟩ : ∃ o, u3 = o := ⟨_, rfl⟩
      rw [ho] at HO ⊢
      clear ho
      have q5 : wr.cell? ⟨B0, 5, none⟩ = some (.slice t.a n t.cap) := by rw [HBL.out.2.cell 5]; rfl
      by_cases hlt : k < n
      · have hlt' : (k : Int) < n := by omega
        have h0' : (0 : Int) ≤ k := by omega
        have hko : k < t.kids.length := by rw [← HN.out]; exact hlt
        have hwb : Below w.heap.size w wr := HB.out.trans (HBL.out.1.mono (by rw [HB0.out]; exact HB.out.size))
        obtain ⟨b, off, hab, hbl, _, hxok, hxc, hxk⟩ := HH.out.at_ hko
        rw [hab] at q5
        obtain ⟨x, hx⟩ : ∃ x, x = t.kids[k]'hko := ⟨_, rfl⟩
        rw [← hx] at hxc hxk hxok
        have hcw : ∀ o, wr.cell? ⟨b, o, none⟩ = w.cell? ⟨b, o, none⟩ := fun o => hwb.cell (p := ⟨b, o, none⟩) hbl
        have a0 := (hcw (off + k * 6 + 0)).trans (hxc 0 _ rfl)
        have a1 := (hcw (off + k * 6 + 1)).trans (hxc 1 _ rfl)
        have a2 := (hcw (off + k * 6 + 2)).trans (hxc 2 _ rfl)
        have a3 := (hcw (off + k * 6 + 3)).trans (hxc 3 _ rfl)
        have a4 := (hcw (off + k * 6 + 4)).trans (hxc 4 _ rfl)
        have a5 := (hcw (off + k * 6 + 5)).trans (hxc 5 _ rfl)
        rw [Nat.add_zero] at a0
        have hst := setsL_take hko
        rw [← hx] at hst
        have hpt := preL_take hko
        rw [← hx] at hpt
        have hpl : (preL (t.kids.take (k + 1))).length ≤ (preL t.kids).length := by
          have := congrArg (fun l => (preL l).length) (List.take_append_drop (k + 1) t.kids)
          simp only [preL_app, List.length_append] at this
          omega
        have hpr : (preR x).length = 1 + (preL x.kids).length := by rw [preR_eq, List.length_cons, Nat.add_comm]
        have hsl := setsL_len (t.kids.take k)
        have hsx := setsL_len [x]
        rw [show preL [x] = preR x by simp [preL]] at hsx
        have HREC := Lib.hid (HIH.out x (by rw [hx]; exact List.getElem_mem _) (by omega) wr hwb)
        have HLE : Hid ((V1 ++ setsL (t.kids.take k)).length + (setsL [x]).length ≤ 200000) := by show _ ≤ _; rw [List.length_append]; omega
        have HST := Lib.hid hst
        have HBS : Hid (B0 ≤ wr.heap.size) := Nat.le_of_lt HBL.out.2.lt
        obtain ⟨xl, hxl⟩ : ∃ xl, xl = x.kids.length := ⟨_, rfl⟩
        unfold ryCells at HREC
        rw [← hxl] at a5 HREC
        clear hx hxc hxk hxok hcw hbl hst hpt hpl hpr hsl hsx hwb hxl hab
        go_wp2_with (first
          | (go_at_call 30; refine HREC.out.mono ?_; rintro e w5 ⟨v5, rfl, ho5, hb5⟩; have HO5 := Lib.hid ho5; have HOO := Lib.hid (ownsRow_kept HO.out hb5); have HB5 := Lib.hid (HBL.out.1.trans (hb5.mono HBS.out)); have HX5 := Lib.hid (keep0 HBL.out.2 hb5); clear ho5 hb5)
          | (at_builtin; refine wpList_app_sets rfl _ _ rfl B0 wr.heap.size o v5 (V1 ++ setsL (t.kids.take k)) (setsL [x]) rfl HOO.out rfl HO5.out HLE.out (Nat.le_of_lt HX5.out.lt) ?_; intro v7 w7 hown7 hg7; have HO7 := Lib.hid hown7; have HX7 := Lib.hid (HX5.out.kept hg7 (blk_apart HOO.out HX5.out (by decide))); have HB7 : Hid (Below B0 w' w7) := HB5.out.grown hg7 (Nat.le_of_lt HX5.out.lt) (fun r hr => (HOO.out.lt r hr).1); clear hown7 hg7))
        go_roundw
        case rel =>
          refine ⟨k + 1, by omega, by go_num, ?_, HB7.out, HX7.out⟩
          have h1 := HO7.out
          rw [List.append_assoc, ← HST.out] at h1
          exact h1
        case measure => simp [intOf]; omega
      · obtain rfl : k = n := by omega
        go_wp2
        go_ret
        refine ⟨_, rfl, ?_, by rw [← HB0.out]; exact HBL.out.1⟩
        have h1 := HO.out
        rw [HN.out, List.take_length, HV1.out, ← HONE.out, HB0.out] at h1
        exact h1
theorem rSets_aux {w : World} {S : Nat → Prop} {a : Option Addr} {c : Nat} {ks : List Ry} (h : RyIn w S a c ks) : ∀ x ∈ ks, RSSpec w x := by
  induction h with
  | nil a c => intro x hx; cases hx
  | row ks b off c hS hlt hn hcap hm hok hc hk ih =>
    intro x hx
    obtain ⟨i, hi, rfl⟩ := List.getElem_of_mem hx
    exact rSets_step _ (hk i hi) (ih i hi)
theorem rSets_any (t : Ry) (w W : World) (hk : RyIn w (· < w.heap.size) t.a t.cap t.kids) (hN : (preR t).length ≤ 100000) (hb : Below w.heap.size w W) : Calls Try.prog 30 #[.agg (ryCells t).toArray] W fun e w2 => ∃ v2, e = .returned v2 ∧ w2.ownsRow W.heap.size 28 4 v2 (setsL [t]).length (setCells (setsL [t])) ∧ Below W.heap.size W w2 :=
  rSets_step t hk (rSets_aux hk) hN W hb
end Go.Proofs.Ytlaccbkhlkomhaa
