/-
  The contract of classes.Of. Conditions: the trees lie in memory; at most 100000 nodes.
-/
import Derived.Test.YtlaccbkhlkomhaaCpE
import Derived.Deep.WholeRow
namespace Go.Proofs.Ytlaccbkhlkomhaa
open Go.RowKit Go.Shelf

/-- the sets of some trees -/
def setsL (ls : List Ry) : List St := ((preL ls).filter (fun x => x.kind == 1)).map Ry.set
theorem mem_setsL (ls : List Ry) (s : St) : s ∈ setsL ls ↔ SetIn (preL ls) s := by
  unfold setsL SetIn
  simp [and_assoc]
theorem clV_same {V V' : List St} (h : ∀ s, s ∈ V ↔ s ∈ V') : clV V = clV V' := by
  unfold clV
  rw [clL_same h]
def ofV (ls : List Ry) : Value := if ls.all rightR = true then .tuple #[.agg (clV (setsL ls)), .int .i64 0] else .tuple #[.agg (clCells cl0 0).toArray, .int .i64 2]
attribute [local go_sem ↓] loadCl_eq storeCl_eq
set_option maxRecDepth 100000 in
set_option maxHeartbeats 4000000 in
theorem of_any (a : Option Addr) (n : Nat) (ls : List Ry) (w : World) (hr : RyIn w (· < w.heap.size) a n ls) (hN : (preL ls).length ≤ 100000) :
    Calls Try.prog 10 #[.slice a ls.length n] w fun e w' => e = .returned (ofV ls) ∧ Below w.heap.size w w' := by
  have HR := Lib.hid hr
  have HNN := Lib.hid hN
  have hq2 := hr.len.1
  unfold maxLen at hq2
  have hql := preL_len ls
  obtain ⟨q, hq⟩ : ∃ q, q = ls.length := ⟨_, rfl⟩
  have HQ := Lib.hid hq
  rw [← hq] at hq2 ⊢
  obtain ⟨zs, hzs⟩ : ∃ zs : Array Value, zs = (clCells cl0 0).toArray := ⟨_, rfl⟩
  have hz : ∀ W, (zeroValue 25).run Try.prog W = .ok (.agg zs) W := fun W => by rw [hzs]; kernel_rfl
  have HZ := Lib.hid hzs
  obtain ⟨c1, hc1⟩ : ∃ c1 : Array Value, c1 = (clCells cl0 1).toArray := ⟨_, rfl⟩
  have hb1 : zs.setIfInBounds 256 (.int .i64 1) = c1 := by rw [hc1, hzs]; exact clCells_many_set cl0 0 1 cl0_len
  have hzn : zs.size = 257 := by rw [hzs]; simp [clCells_len _ _ cl0_len]
  have HCV : Hid (c1 = clV []) := by
    show c1 = clV []
    have h1 : clL [] = cl0 := rfl
    have h2 : manyOf cl0 = 1 := by rw [manyOf, cl0_go]; rfl
    unfold clV
    rw [h1, h2]
    exact hc1
  have HC1 := Lib.hid hc1
  have HZO : Hid (zs.all (·.oneCell') = true) := by show _ = _; rw [hzs]; exact cl_one _ _
  clear hr hN hq hql hzs hc1
  go_enter Try.func10, Try.ntmps10
  go_wp2
  go_loopw [9] (fun i wr => ∃ k : Nat, k ≤ q ∧ i = .int .i64 k ∧ Hid (∀ t ∈ ls.take k, rightR t = true) ∧ Hid (Below w.heap.size w wr ∧ Blk wr w.heap.size 25 zs)) (fun i _ => q - (intOf i).toNat)
  case atStart => exact ⟨0, Nat.zero_le _, rfl, fun t ht => by simp at ht, (Below.refl _ _).alloc (Nat.le_refl _) _, Blk.new _ _ _⟩
  case round =>
    obtain ⟨k, hk, rfl, HA, HB⟩ := hrel
    by_cases hlt : k < q
    · have hlt' : (k : Int) < q := by omega
      have h0' : (0 : Int) ≤ k := by omega
      have hko : k < ls.length := by rw [← HQ.out]; exact hlt
      have hkx := HR.out.at_ hko
      obtain ⟨b, off, rfl, hbl, _, hxok, hxc, hxk⟩ := hkx
      obtain ⟨x, hx⟩ : ∃ x, x = ls[k]'hko := ⟨_, rfl⟩
      rw [← hx] at hxc hxk hxok
      have hcw : ∀ o, wr.cell? ⟨b, o, none⟩ = w.cell? ⟨b, o, none⟩ := fun o => HB.out.1.cell (p := ⟨b, o, none⟩) hbl
      have a0 := (hcw (off + k * 6 + 0)).trans (hxc 0 _ rfl)
      have a1 := (hcw (off + k * 6 + 1)).trans (hxc 1 _ rfl)
      have a2 := (hcw (off + k * 6 + 2)).trans (hxc 2 _ rfl)
      have a3 := (hcw (off + k * 6 + 3)).trans (hxc 3 _ rfl)
      have a4 := (hcw (off + k * 6 + 4)).trans (hxc 4 _ rfl)
      have a5 := (hcw (off + k * 6 + 5)).trans (hxc 5 _ rfl)
      rw [Nat.add_zero] at a0
      have hpx : (preR x).length ≤ 1000000 := by
        have h1 := preL_take hko
        rw [← hx] at h1
        have h2 := congrArg (fun l => (preL l).length) (List.take_append_drop (k + 1) ls)
        simp only [preL_app, List.length_append] at h2
        have h3 := HNN.out
        have h4 : (preR x).length = 1 + (preL x.kids).length := by rw [preR_eq, List.length_cons, Nat.add_comm]
        omega
      have HBA := HB.out.1.alloc HB.out.1.size (.cells (ryCells x).toArray 42)
      have HBB := Lib.hid HBA
      have HRT := Lib.hid (reRight_any x (wr.alloc (.cells (ryCells x).toArray 42)) hxok (hxk.later HBA.size (fun b hb _ => ⟨Nat.lt_of_lt_of_le hb HBA.size, HBA.block b hb⟩)) hpx)
      have HTK : Hid (rightR x = true → ∀ t ∈ ls.take (k + 1), rightR t = true) := fun hr t ht => by
        rw [List.take_succ_eq_append_getElem hko] at ht
        rcases List.mem_append.1 ht with ht | ht
        · exact HA.out t ht
        · obtain rfl := List.mem_singleton.1 ht
          rw [← hx]; exact hr
      have HNO : Hid (rightR x = false → ls.all rightR = false) := fun hr => by
        rw [List.all_eq_false]
        exact ⟨x, by rw [hx]; exact List.getElem_mem _, by rw [hr]; decide⟩
      obtain ⟨R, hR⟩ : ∃ R, R = rightR x := ⟨_, rfl⟩
      rw [← hR] at HRT HTK HNO
      have HZB := Lib.hid (HB.out.2.alloc (.cells (ryCells x).toArray 42))
      unfold ryCells at HRT HBB HZB
      obtain ⟨xl, hxl⟩ : ∃ xl, xl = x.kids.length := ⟨_, rfl⟩
      rw [← hxl] at a5 HRT HBB HZB
      clear hx hxc hxk hxok hbl hcw HBA hxl hpx hR
      cases R with
      | true =>
        go_wp2_with (go_at_call 24; refine HRT.out.mono ?_; rintro e w5 ⟨rfl, hb5⟩)
        have HB5 : Hid (Below w.heap.size w w5 ∧ Blk w5 w.heap.size 25 zs) := ⟨HBB.out.trans (hb5.mono HBB.out.size), HZB.out.below hb5 HZB.out.lt⟩
        have HT5 := Lib.hid (HTK.out (by simp))
        clear hb5 HRT HTK HNO
        go_wp2
        go_roundw
        case rel => exact ⟨k + 1, by omega, by go_num, HT5, HB5⟩
        case measure => simp [intOf]; omega
      | false =>
        go_wp2_with (go_at_call 24; refine HRT.out.mono ?_; rintro e w5 ⟨rfl, hb5⟩)
        have HB5 : Hid (Below w.heap.size w w5 ∧ Blk w5 w.heap.size 25 zs) := ⟨HBB.out.trans (hb5.mono HBB.out.size), HZB.out.below hb5 HZB.out.lt⟩
        have HN5 := Lib.hid (HNO.out (by simp))
        clear hb5 HRT HTK HNO
        have hst0 := storeCl_run hzn hzn HZO.out HB5.out.2
        have HL6 : Hid (Below w.heap.size w (w5.setRow w.heap.size zs) ∧ Blk (w5.setRow w.heap.size zs) w.heap.size 25 zs) := ⟨below_row HB5.out.1 (Nat.le_refl _) _, HB5.out.2.setRow _⟩
        go_wp2
        rw [hst0]
        go_wp2
        refine bodyPost_ret (results_cell_tmp rfl _ _ w.heap.size _ _ _ _ rfl HL6.out.2 Try.underlying25 rfl (by rw [hzn]; kernel_rfl)) rfl ?_
        refine ⟨?_, HL6.out.1⟩
        unfold ofV
        rw [if_neg (by rw [HN5.out]; decide), ← HZ.out]
        rfl
    · obtain rfl : k = q := by omega
      have hst0 : (StoreCl (.pointer (some ⟨wr.heap.size, 0, none⟩)) (.agg c1)).run Try.prog (wr.alloc (.cells zs 25)) = .ok () (wr.alloc (.cells c1 25)) := by
        have h1 : c1.size = 257 := by rw [HC1.out]; simp [clCells_len _ _ cl0_len]
        have h2 := storeCl_run hzn h1 (by rw [HC1.out]; exact cl_one _ _) (Blk.new wr 25 zs)
        rw [World.setRow_alloc_new] at h2
        exact h2
      have hbw : Below wr.heap.size wr (wr.alloc (.cells c1 25)) := (Below.refl _ _).alloc (Nat.le_refl _) _
      have hbs := HB.out.1.size
      have hrl : RyIn (wr.alloc (.cells c1 25)) (fun b => b < (wr.alloc (.cells c1 25)).heap.size ∧ b ≠ wr.heap.size) a n ls := (HR.out.later HB.out.1.size (fun b hb _ => ⟨(⟨hb, by omega⟩ : b < w.heap.size ∧ b ≠ wr.heap.size), HB.out.1.block b hb⟩)).later hbw.size (fun b hb hS => ⟨⟨Nat.lt_of_lt_of_le hb hbw.size, hS.2⟩, hbw.block b hb⟩)
      have HES := Lib.hid (eachSet_any a n ls wr.heap.size (wr.alloc (.cells c1 25)) (by rw [← HCV.out]; exact Blk.new _ _ _) hrl HNN.out)
      rw [← HQ.out] at HES
      clear hbw hbs hrl
      go_wp2_with (go_at_call 25; refine HES.out.mono ?_; rintro e w5 ⟨⟨v5, rfl⟩, ho5, V, hV, hb5⟩; have hbl : Below wr.heap.size wr w5 := (((Below.refl _ wr).alloc (Nat.le_refl _) (.cells c1 25))).trans (ho5.below (Nat.le_refl _) (by simp)); have hres : Blk w5 w.heap.size 25 zs := HB.out.2.below hbl HB.out.2.lt; have hvl := clV_size V; have hld : (LoadCl (.pointer (some ⟨wr.heap.size, 0, none⟩))).run Try.prog w5 = .ok (.agg (clV V)) w5 := loadCl_run (clL_cp V).len hb5; have hst := storeCl_run hzn hvl (clV_one V) hres; have HL6 : Hid (Below w.heap.size w (w5.setRow w.heap.size (clV V)) ∧ Blk (w5.setRow w.heap.size (clV V)) w.heap.size 25 (clV V)) := ⟨below_row (low_trans HB.out.1 hbl) (Nat.le_refl _) _, hres.setRow _⟩; have HVV := Lib.hid hV; clear ho5 hV hb5 hbl hres)
      refine bodyPost_ret (results_cell_tmp rfl _ _ w.heap.size _ _ _ _ rfl HL6.out.2 Try.underlying25 rfl (by rw [hvl]; kernel_rfl)) rfl ?_
      refine ⟨?_, HL6.out.1⟩
      have hall : ls.all rightR = true := by
        rw [List.all_eq_true]
        intro t ht
        exact HA.out t (by rw [HQ.out, List.take_length]; exact ht)
      unfold ofV
      rw [if_pos hall, clV_same (V' := setsL ls) (fun s => (HVV.out s).trans (mem_setsL ls s).symm)]
      rfl
end Go.Proofs.Ytlaccbkhlkomhaa
