/-
  The contract of regex.Right. Conditions: at most 1100000 nodes.
-/
import Derived.Test.YtdckjjkaoecgaaaDoorRnN
import Derived.Outline
namespace Go.Proofs.YtdckjjkaoecgaaaDoor
open Go.RowKit Go.Shelf

attribute [local go_sem] Oper.semAt_some

theorem mem_preL {x : Ry} {ks : List Ry} (h : x ∈ preL ks) : ∃ i, ∃ hi : i < ks.length, x = ks[i] ∨ x ∈ preL ks[i].kids := by
  induction ks with
  | nil => simp [preL] at h
  | cons t r ih =>
    rw [preL_cons] at h
    rcases List.mem_cons.1 h with rfl | h
    · exact ⟨0, by simp, .inl rfl⟩
    · rcases List.mem_append.1 h with h | h
      · exact ⟨0, by simp, .inr h⟩
      · obtain ⟨i, hi, h⟩ := ih h
        exact ⟨i + 1, by simp; omega, h⟩
/-- every node lies in memory -/
theorem RyIn.nodes {w : World} {S : Nat → Prop} {a : Option Addr} {c : Nat} {ks : List Ry} (h : RyIn w S a c ks) : ∀ x ∈ preL ks, ryOk x ∧ RyIn w S x.a x.cap x.kids := by
  induction h with
  | nil a c => intro x hx; simp [preL] at hx
  | row ks b off c hS hlt hn hcap hm hok hc hk ih =>
    intro x hx
    obtain ⟨i, hi, rfl | hx⟩ := mem_preL hx
    · exact ⟨hok i hi, hk i hi⟩
    · exact ih i hi x hx
theorem mem_finTo {q : Nat} : ∀ {k : Nat} {h : k ≤ q} (x : Fin q), x.val < k → x ∈ finTo q k h
  | 0, _, x, hx => absurd hx (Nat.not_lt_zero _)
  | k + 1, h, x, hx => by
    rw [finTo, List.mem_append]
    by_cases hk : x.val < k
    · exact .inl (mem_finTo x hk)
    · exact .inr (by simp; exact Fin.ext (by simp; omega))
theorem keepsFrom_below (B : Nat) {W W' : World} (h : Below W.heap.size W W') : KeepsFrom B W W' := ⟨h.size, fun k o _ hk _ => (h.block k (Array.getElem?_eq_some_iff.1 hk).1).trans hk⟩
/-- the iterator's contract, in the caller's form -/
theorem nodes_seq (n : Nat) (hn : 1 ≤ n) (Bx : Nat) (t : Ry) (q : Nat) (hq : (preR t).length = q) (hq2 : q ≤ 1100000) (X : Nat → Prop) (w : World) (hX : ∀ b, X b → b < w.heap.size) (hok : ryOk t)
    (hk : RyIn w (fun b => b < w.heap.size ∧ ¬ X b) t.a t.cap t.kids) (hbx : Blk w Bx 46 (ryCells t).toArray) :
    SeqC Fence.wide n Tryd.prog 62 #[.pointer (some ⟨Bx, 0, none⟩)] (fun x : Fin q => #[.agg (ryCells ((preR t)[x.val]'(by have := x.isLt; omega))).toArray]) X (fun ys => ys = finTo q q (Nat.le_refl _)) (fun pre => ∃ k, ∃ h : k ≤ q, pre = finTo q k h) q w :=
  fun l J Jx W hW hJ _ hY h0 => nodes1_in n hn l Bx t q hq hq2 X J Jx W (fun b hb => Nat.lt_of_lt_of_le (hX b hb) hW.size) hok (hk.later hW.size (fun b hlt hS => ⟨⟨Nat.lt_of_lt_of_le hlt hW.size, hS.2⟩, hW.block b hlt⟩)) (hbx.below hW hbx.lt) hJ (fun pre x W1 h1 h2 h3 => hY pre x W1 h1 h2 h3) h0
set_option maxRecDepth 100000 in
theorem nodes_any (t : Ry) (w : World) :
    Calls Tryd.prog 48 #[.agg (ryCells t).toArray] w fun e w' => e = .returned (.func (.func 62) #[] #[.pointer (some ⟨w.heap.size, 0, none⟩)]) ∧ w' = w.alloc (.cells (ryCells t).toArray 46) := by
  unfold ryCells
  go_enter Tryd.func48, Tryd.ntmps48
  go_wp2
  go_ret
  exact ⟨rfl, rfl⟩
set_option maxRecDepth 100000 in
set_option maxHeartbeats 4000000 in
theorem reRight_any (t : Ry) (w : World) (hok : ryOk t) (hk : RyIn w (· < w.heap.size) t.a t.cap t.kids) (hq2 : (preR t).length ≤ 1100000) :
    Calls Tryd.prog 29 #[.agg (ryCells t).toArray] w fun e w' => e = .returned (.bool (rightR t)) ∧ Below w.heap.size w w' := by
  obtain ⟨q, hq⟩ : ∃ q, (preR t).length = q := ⟨_, rfl⟩
  rw [hq] at hq2
  obtain ⟨cs, hcs⟩ : ∃ cs, cs = ryCells t := ⟨_, rfl⟩
  have HN : Hid (∀ W, Calls Tryd.prog 48 #[.agg cs.toArray] W fun e w' => e = .returned (.func (.func 62) #[] #[.pointer (some ⟨W.heap.size, 0, none⟩)]) ∧ w' = W.alloc (.cells cs.toArray 46)) := fun W => by rw [hcs]; exact nodes_any t W
  have HNODE : Hid (∀ x : Fin q, ((preR t)[x.val]'(by have := x.isLt; omega)).kids.length ≤ maxLen) := fun x => by
    have hm : (preR t)[x.val]'(by have := x.isLt; omega) ∈ preR t := List.getElem_mem _
    generalize (preR t)[x.val]'(by have := x.isLt; omega) = y at *
    rw [preR_eq] at hm
    rcases List.mem_cons.1 hm with rfl | hm
    · exact hk.len.1
    · exact (hk.nodes y hm).2.len.1
  rw [← hcs]
  obtain ⟨v0, v1, v2, v3, v4, v5, hv⟩ : ∃ v0 v1 v2 v3 v4 v5, cs = [v0, v1, v2, v3, v4, v5] := ⟨_, _, _, _, _, _, hcs⟩
  refine (callsIn_wide (n := 6)).1 ?_
  refine callsIn_of_wp_marks Tryd.func29 rfl trivial ?_ rfl
  simp only [Tryd.ntmps29, List.size_toArray, List.length_cons, List.length_nil, Nat.reduceAdd, Nat.reduceSub, Array.replicate_succ, Array.replicate_zero, List.push_toArray, List.append_toArray, List.nil_append, List.cons_append]
  have HCS := Lib.hid hcs
  have HK := Lib.hid hk
  clear hcs hk
  subst hv
  gi_wp2_with (refine ⟨trivial, ?_⟩; gi_at_call 48; refine (callsIn_wide.2 (HN.out _)).mono ?_; rintro e w3 ⟨rfl, rfl⟩)
  generalize hW0 : (((w.alloc (.cells #[v0, v1, v2, v3, v4, v5] 46)).alloc (.cells #[.bool false] 4)).alloc (.cells #[v0, v1, v2, v3, v4, v5] 46)) = W0 at *
  have hsz : W0.heap.size = w.heap.size + 3 := by rw [← hW0]; simp
  have hlow : Below w.heap.size w W0 := by rw [← hW0]; exact (((Below.refl _ _).alloc (Nat.le_refl _) _).alloc (by simp) _).alloc (by simp; omega) _
  have hrb : Blk W0 (w.heap.size + 1) 4 #[.bool false] := by rw [← hW0]; exact (Blk.new_at (w.alloc _) _ _ _ (by simp)).alloc _
  have hbx : Blk W0 (w.heap.size + 1 + 1) 46 (ryCells t).toArray := by rw [← hW0, ← HCS.out]; exact Blk.new_at _ _ _ _ (by simp)
  have hseq := nodes_seq 5 (by omega) (w.heap.size + 1 + 1) t q hq hq2 (fun _ => False) W0 (fun _ h => h.elim) hok (HK.out.later hlow.size (fun b hlt _ => ⟨⟨by have := hlow.size; omega, fun h => h⟩, hlow.block b hlt⟩)) hbx
  have HSZ := Lib.hid hsz
  have HLOW := Lib.hid hlow
  have HRB := Lib.hid hrb
  clear hW0 hsz hlow hrb hbx HN
  refine range_c rfl (by omega) (gf := 62) (lb := #[.pointer (some ⟨w.heap.size + 1 + 1, 0, none⟩)]) rfl trivial (enters_of Tryd.func62 (by kernel_rfl) rfl) hseq (Below.refl _ _) (fun _ => rfl)
    (fun (pre : List (Fin q)) (W : World) => (∀ x ∈ pre, aloneR ((preR t)[x.val]'(by have := x.isLt; omega)) = true) ∧ Blk W (w.heap.size + 1) 4 #[.bool false] ∧ Below w.heap.size w W)
    (fun c _ W => c = .ret ∧ rightR t = false ∧ Blk W (w.heap.size + 1) 4 #[.bool false] ∧ Below w.heap.size w W)
    (fun s A B h hb => ⟨h.1, h.2.1.below hb (by rw [HSZ.out]; omega), h.2.2.trans (hb.mono (by rw [HSZ.out]; omega))⟩)
    (fun c s A B h hb => ⟨h.1, h.2.1, h.2.2.1.below hb (by rw [HSZ.out]; omega), h.2.2.2.trans (hb.mono (by rw [HSZ.out]; omega))⟩)
    ⟨fun x hx => (by cases hx), HRB.out, HLOW.out⟩
    (fun x a' W => ∃ Bn, Blk W Bn 46 (ryCells ((preR t)[x.val]'(by have := x.isLt; omega))).toArray ∧ a' = { tmps := #[.agg #[v0, v1, v2, v3, v4, v5], .pointer (some ⟨w.heap.size, 0, none⟩), .pointer (some ⟨w.heap.size + 1, 0, none⟩), .pointer (some ⟨Bn, 0, none⟩), .agg #[v0, v1, v2, v3, v4, v5], .func (.func 62) #[] #[.pointer (some ⟨w.heap.size + 1 + 1, 0, none⟩)], .agg (ryCells ((preR t)[x.val]'(by have := x.isLt; omega))).toArray, undef, undef, undef], defers := [] })
    ?hAx ?assign ?body ?done ?stop
  case hAx =>
    rintro x a' A l o o' ⟨Bn, hb, rfl⟩ hl ho
    refine ⟨Bn, ?_, rfl⟩
    refine (World.putObj_heap_other (fun e => ?_)).trans hb
    subst e
    rw [hb] at hl
    injection hl with hl
    subst hl
    cases ho
  case assign =>
    intro l pre x W K hi hK
    have HK2 := Lib.hid hK
    clear hK hi
    obtain ⟨y, hy⟩ : ∃ y, y = (preR t)[x.val]'(by have := x.isLt; omega) := ⟨_, rfl⟩
    rw [← hy]
    unfold ryCells
    gi_wp2
    refine HK2.out _ _ ((Below.refl _ W).alloc (Nat.le_refl _) _) ⟨W.heap.size, ?_, ?_⟩
    · rw [← hy]
      exact Blk.new _ _ _
    · rw [← hy]
      rfl
  case body =>
    rintro l pre x a' W hW ⟨hal, hrb, hlow⟩ ⟨Bn, hbn, rfl⟩ hlt
    obtain ⟨y, hy⟩ : ∃ y, y = (preR t)[x.val]'(by have := x.isLt; omega) := ⟨_, rfl⟩
    have hkm : y.kids.length ≤ maxLen := by rw [hy]; exact HNODE.out x
    have hym : y ∈ preR t := by rw [hy]; exact List.getElem_mem _
    obtain ⟨B, hB⟩ : ∃ B, B = aloneR y := ⟨_, rfl⟩
    have hc : ∀ W', Calls Tryd.prog 49 #[.agg (ryCells y).toArray] W' fun e w' => e = .returned (.bool B) ∧ Below W'.heap.size W' w' := fun W' => by rw [hB]; exact alone_any y hkm W'
    have HAL : Hid (∀ z ∈ pre, aloneR ((preR t)[z.val]'(by have := z.isLt; omega)) = true) := hal
    have HI : Hid (x.val < (preR t).length ∧ y ∈ preR t ∧ B = aloneR y ∧ (B = true → aloneR ((preR t)[x.val]'(by have := x.isLt; omega)) = true)) := ⟨by have := x.isLt; omega, hym, hB, fun h => by rw [← hy, ← hB]; exact h⟩
    rw [← hy] at hbn ⊢
    unfold ryCells at hbn hc ⊢
    have HC := Lib.hid hc
    have HRB2 := Lib.hid hrb
    have HLOW2 := Lib.hid hlow
    have b0 := hbn.cell 0
    have b1 := hbn.cell 1
    have b2 := hbn.cell 2
    have b3 := hbn.cell 3
    have b4 := hbn.cell 4
    have b5 := hbn.cell 5
    simp at b0 b1 b2 b3 b4 b5
    have hws := hlow.size
    have hrl := hrb.lt
    clear hal hkm hym hB hy hc hrb hlow hbn
    have hd : 1 ≤ 6 - 1 - 1 := by omega
    have hp0 : W.heap.size = W.heap.size := rfl
    cases B with
    | true =>
      gi_wp2_with (refine ⟨trivial, ?_⟩; gi_at_call 49; refine (CallsIn.inRound l (callsIn_wide.2 (HC.out _))).mono ?_; rintro e w' ⟨rfl, hb⟩)
      exact ⟨keepsFrom_below _ hb, KeepX.of_below hb, fun z hz => (by
        rcases List.mem_append.1 hz with hz | hz
        · exact HAL.out z hz
        · obtain rfl := List.mem_singleton.1 hz
          exact HI.out.2.2.2 (by simp)), HRB2.out.below hb hrl, HLOW2.out.trans (hb.mono (by omega))⟩
    | false =>
      gi_wp2_with (refine ⟨trivial, ?_⟩; gi_at_call 49; refine (CallsIn.inRound l (callsIn_wide.2 (HC.out _))).mono ?_; rintro e w' ⟨rfl, hb⟩; have HB := Lib.hid hb; have r0 := (HRB2.out.below hb hrl).cell 0; have r1 := (HRB2.out.below hb hrl).frozen 0; clear hb; simp at r0)
      refine ⟨(keepsFrom_below _ HB.out).trans ((KeepsOthers.setCell _ _ _).from _), rfl, ?_, (HRB2.out.below HB.out hrl).set_ 0 _, (HLOW2.out.trans (HB.out.mono (by omega))).setCell (p := ⟨w.heap.size + 1, 0, none⟩) (by show w.heap.size ≤ w.heap.size + 1; omega) _⟩
      unfold rightR
      rw [List.all_eq_false]
      exact ⟨y, HI.out.2.1, by rw [← HI.out.2.2.1]; decide⟩
  case done =>
    rintro xs W rfl ⟨hal, hrb, hlow⟩ hD
    have hR : rightR t = true := by
      unfold rightR
      rw [List.all_eq_true]
      intro y hy
      obtain ⟨i, hi, rfl⟩ := List.getElem_of_mem hy
      exact hal ⟨i, by omega⟩ (mem_finTo _ (by show i < q; omega))
    have r0 := hrb.cell 0
    have r1 := hrb.frozen 0
    simp at r0
    have HR := Lib.hid hR
    clear hR
    have HW : Hid (Blk W (w.heap.size + 1) 4 #[.bool false] ∧ Below w.heap.size w W ∧ W.heap[W0.heap.size]? = some (.deferred (some [])) ∧ w.heap.size + 3 = W0.heap.size) := ⟨hrb, hlow, hD, HSZ.out.symm⟩
    clear hal hrb hlow hD
    gi_wp2
    have hD2 : (W.setCell ⟨w.heap.size + 1, 0, none⟩ (.bool true)).heap[W0.heap.size]? = some (.deferred (some [])) := (Below.heap_setCell _ _ _ _ (by have := HW.out.2.2.2; show W0.heap.size ≠ w.heap.size + 1; omega)).trans HW.out.2.2.1
    refine ⟨by simp, .inl ⟨_, _, rfl, run_takeDeferred hD2, ?_⟩⟩
    have hb2 : Blk ((W.setCell ⟨w.heap.size + 1, 0, none⟩ (.bool true)).putObj W0.heap.size (.deferred none)) (w.heap.size + 1) 4 #[.bool true] := (World.putObj_heap_other (by have := HW.out.2.2.2; omega)).trans (HW.out.1.set_ 0 _)
    have hc5 := hb2.cell 0
    simp at hc5
    refine ⟨.bool true, ?_, by rw [HR.out], (HW.out.2.1.setCell (p := ⟨w.heap.size + 1, 0, none⟩) (by show w.heap.size ≤ w.heap.size + 1; omega) _).trans (below_put _ (by have := HW.out.2.2.2; omega))⟩
    simp [results, Tryd.f29, go_sem, hc5]
  case stop =>
    rintro c pre W _ ⟨rfl, hR, hrb, hlow⟩ hD
    have HR := Lib.hid hR
    clear hR
    gi_wp2
    refine ⟨by simp, .inl ⟨_, _, rfl, run_takeDeferred hD, ?_⟩⟩
    have hb2 : Blk (W.putObj W0.heap.size (.deferred none)) (w.heap.size + 1) 4 #[.bool false] := (World.putObj_heap_other (by have := HSZ.out; omega)).trans hrb
    have hc5 := hb2.cell 0
    simp at hc5
    refine ⟨.bool false, ?_, by rw [HR.out], hlow.trans (below_put _ (by have := HSZ.out; omega))⟩
    simp [results, Tryd.f29, go_sem, hc5]
end Go.Proofs.YtdckjjkaoecgaaaDoor
