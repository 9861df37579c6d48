/-
  The contract of frankinglaw07.right: of some trees those that are right, in a row of its own. Conditions: at most 1100000 nodes in all.
-/
import Derived.Test.YtdckjjkaoecgaaaDoorRxF
import Derived.Test.YtdckjjkaoecgaaaDoorRnR
import Derived.OwnWalk
namespace Go.Proofs.YtdckjjkaoecgaaaDoor
open Go.RowKit

theorem infoRe : (Tryd.prog.info? 46).map (fun i => (i.zero, i.size, i.bytes)) = some (some (.agg #[.int .u8 0, .int .u64 0, .int .u64 0, .int .u64 0, .int .u64 0, .slice none 0 0]), 6, 64) := by kernel_rfl
/-- trees that lie in a row of one's own -/
structure OwnR (w0 : World) (W : World) (v : Value) (l : List Ry) : Prop where
  own : W.ownsRow w0.heap.size 46 6 v l.length (l.flatMap ryCells)
  ok : ∀ t ∈ l, ryOk t ∧ RyIn w0 (· < w0.heap.size) t.a t.cap t.kids
theorem flatCells_len (l : List Ry) : (l.flatMap ryCells).length = l.length * 6 := by
  induction l with
  | nil => rfl
  | cons t r ih => rw [List.flatMap_cons, List.length_append, ih, List.length_cons]; show 6 + _ = _; omega
theorem flatCells_at (l : List Ry) (i : Nat) (hi : i < l.length) (j : Nat) (hj : j < 6) : (l.flatMap ryCells)[i * 6 + j]? = (ryCells l[i])[j]? := by
  induction l generalizing i with
  | nil => simp at hi
  | cons t r ih =>
    rw [List.flatMap_cons]
    match i, hi with
    | 0, _ => rw [Nat.zero_mul, Nat.zero_add, List.getElem?_append_left (by show j < 6; omega)]; rfl
    | i + 1, hi =>
      rw [List.getElem?_append_right (by show 6 ≤ _; omega), show (i + 1) * 6 + j - (ryCells t).length = i * 6 + j from by show (i + 1) * 6 + j - 6 = _; omega]
      simp at hi
      rw [ih i hi]
      rfl
/-- such a row, as trees in memory -/
theorem OwnR.slice {w0 W : World} {v : Value} {l : List Ry} (h : OwnR w0 W v l) (hb : Below w0.heap.size w0 W) : ∃ a c, v = .slice a l.length c ∧ RyIn W (· < W.heap.size) a c l := by
  rcases h.own.2 with ⟨hv, hn⟩ | ⟨g, cap, cur, hv, hg, hh, hn, hm, hs, ht⟩
  · have : l = [] := List.eq_nil_of_length_eq_zero hn
    subst this
    exact ⟨none, 0, hv, .nil _ _⟩
  · refine ⟨_, cap, hv, ?_⟩
    have hgl : g < W.heap.size := (Array.getElem?_eq_some_iff.1 hh).1
    have hks : ∀ t ∈ l, RyIn W (· < W.heap.size) t.a t.cap t.kids := fun t ht => ((h.ok t ht).2.under hb).mono (fun b _ hlt => Nat.lt_of_lt_of_le hlt hb.size)
    by_cases h0 : 0 < l.length
    · refine .row l g 0 cap hgl hgl h0 hn (Nat.le_trans hn hm) (fun i hi => (h.ok _ (List.getElem_mem hi)).1) (fun i hi j u hu => ?_) (fun i hi => hks _ (List.getElem_mem hi))
      have hj : j < 6 := (List.getElem?_eq_some_iff.1 hu).1
      rw [cell_of_row W g _ cur 46 (0, 0) hh]
      have h1 := flatCells_at l i hi j hj
      rw [← ht, List.getElem?_take, if_pos (by omega), hu] at h1
      rw [Nat.zero_add]
      simpa using h1
    · have : l = [] := List.eq_nil_of_length_eq_zero (by omega)
      subst this
      exact .nil _ _
theorem pre_len : ∀ ls : List Ry, ls.length ≤ (preL ls).length
  | [] => Nat.zero_le _
  | t :: r => by
    have := pre_len r
    rw [preL_cons, List.length_cons, List.length_cons, List.length_append]
    omega
theorem pre_mem {x : Ry} : ∀ {ls : List Ry}, x ∈ ls → (preR x).length ≤ (preL ls).length
  | t :: r, h => by
    rw [preL, List.length_append]
    rcases List.mem_cons.1 h with rfl | h
    · omega
    · have := pre_mem h
      omega
set_option maxRecDepth 100000 in
set_option maxHeartbeats 1600000 in
theorem right7_any (a : Option Addr) (c : Nat) (ls : List Ry) (w : World) (h : RyIn w (· < w.heap.size) a c ls) (hf : (preL ls).length ≤ 1100000) :
    Calls Tryd.prog 20 #[.slice a ls.length c] w fun e w2 => (∃ v, e = .returned v ∧ OwnR w w2 v (ls.filter rightR)) ∧ Below w.heap.size w w2 := by
  obtain ⟨i0, hi0, hz0, hz1, hz2⟩ := info_parts infoRe
  have HH := Lib.hid h
  have HF := Lib.hid hf
  have hm := Nat.le_trans (pre_len ls) hf
  obtain ⟨n, hn⟩ : ∃ n, n = ls.length := ⟨_, rfl⟩
  have HN := Lib.hid hn
  rw [← hn] at hm ⊢
  clear h hn hf
  go_enter Tryd.func20, Tryd.ntmps20
  go_wp2
  go_loopw [3, 8] (fun o i wr => ∃ k : Nat, k ≤ n ∧ i = .int .i64 k ∧ Hid (OwnR w wr o ((ls.take k).filter rightR)) ∧ Hid (Below w.heap.size w wr)) (fun _ i _ => n - (intOf i).toNat)
  case atStart => exact ⟨0, Nat.zero_le _, rfl, ⟨World.ownsRow_nil _ _ _ _, fun t ht => by simp at ht⟩, Below.refl _ _⟩
  case round =>
    obtain ⟨k, hk, rfl, HO, HBEL⟩ := hrel
    obtain ⟨o, ho⟩ : ∃ o, u3 = o := ⟨_, rfl⟩
    rw [ho] at HO ⊢
    clear ho
    by_cases hlt : k < n
    · have hlt' : (k : Int) < n := by omega
      have h0' : (0 : Int) ≤ k := by omega
      obtain ⟨b, off, rfl, hbl, _, hxok, hxc, hxk⟩ := HH.out.at_ (k := k) (by rw [← HN.out]; exact hlt)
      obtain ⟨x, hx⟩ : ∃ x, x = ls[k]'(by rw [← HN.out]; exact hlt) := ⟨_, rfl⟩
      rw [← hx] at hxok hxc hxk
      have hxq : (preR x).length ≤ 1100000 := Nat.le_trans (pre_mem (by rw [hx]; exact List.getElem_mem _)) HF.out
      have hcw : ∀ o, wr.cell? ⟨b, o, none⟩ = w.cell? ⟨b, o, none⟩ := fun o => HBEL.out.cell (p := ⟨b, o, none⟩) hbl
      have a0 := (hcw (off + k * 6 + 0)).trans (hxc 0 _ rfl)
      have a1 := (hcw (off + k * 6 + 1)).trans (hxc 1 _ rfl)
      have a2 := (hcw (off + k * 6 + 2)).trans (hxc 2 _ rfl)
      have a3 := (hcw (off + k * 6 + 3)).trans (hxc 3 _ rfl)
      have a4 := (hcw (off + k * 6 + 4)).trans (hxc 4 _ rfl)
      have a5 := (hcw (off + k * 6 + 5)).trans (hxc 5 _ rfl)
      rw [Nat.add_zero] at a0
      obtain ⟨B, hB⟩ : ∃ B, B = rightR x := ⟨_, rfl⟩
      have HREC : Hid (∀ (W' : World), Below w.heap.size w W' → Calls Tryd.prog 29 #[.agg (ryCells x).toArray] W' fun e w2 => e = .returned (.bool B) ∧ Below W'.heap.size W' w2) := fun W' hW' => by
        rw [hB]
        exact reRight_any x W' hxok ((hxk.under hW').mono (fun b _ hb => Nat.lt_of_lt_of_le hb hW'.size)) hxq
      have HTK : Hid ((ls.take (k + 1)).filter rightR = (ls.take k).filter rightR ++ if B then [x] else []) := by
        show _ = _
        rw [List.take_add_one, List.getElem?_eq_getElem (by rw [← HN.out]; exact hlt), List.filter_append, hB, hx]
        show _ ++ List.filter rightR [ls[k]] = _
        rw [List.filter_cons]
        rfl
      have HBW : Hid (Below w.heap.size w (wr.alloc (.cells (ryCells x).toArray 46))) := HBEL.out.alloc HBEL.out.size _
      have HBX : Hid (Blk (wr.alloc (.cells (ryCells x).toArray 46)) wr.heap.size 46 (ryCells x).toArray) := Blk.new _ _ _
      have HXO : Hid (ryOk x ∧ RyIn w (· < w.heap.size) x.a x.cap x.kids) := ⟨hxok, hxk⟩
      have HOA : Hid (OwnR w (wr.alloc (.cells (ryCells x).toArray 46)) o ((ls.take k).filter rightR)) := ⟨HO.out.own.alloc _, HO.out.ok⟩
      unfold ryCells at HREC HBW HBX HOA
      clear hx hxc hxk hxok hcw hbl hB hxq HO
      obtain ⟨xl, hxl⟩ : ∃ xl, xl = x.kids.length := ⟨_, rfl⟩
      have HXL := Lib.hid hxl
      rw [← hxl] at HREC HBW HBX HOA a5
      clear hxl
      go_wp2_with (go_at_call 29; refine (HREC.out _ HBW.out).mono ?_)
      rintro e w5 ⟨rfl, hb5⟩
      have hb6 : Below w.heap.size w w5 := low_trans HBW.out hb5
      have HB6 := Lib.hid hb6
      have hown5 := ownsRow_kept HOA.out.own hb5
      have HO5 : Hid (OwnR w w5 o ((ls.take k).filter rightR)) := ⟨hown5, HOA.out.ok⟩
      have hbx5 := HBX.out.below hb5 HBX.out.lt
      have hfl : ((ls.take k).filter rightR).length ≤ 1100000 := Nat.le_trans (List.length_filter_le _ _) (by rw [List.length_take]; omega)
      have hws := hb6.size
      clear hb5 hb6 hown5
      cases B with
      | false =>
        clear hbx5
        go_wp2
        go_roundw
        case rel => exact ⟨k + 1, by omega, by go_num, by rw [HTK.out, if_neg (by decide), List.append_nil]; exact HO5, HB6.out⟩
        case measure => simp [intOf]; omega
      | true =>
        have b0 := hbx5.cell 0
        have b1 := hbx5.cell 1
        have b2 := hbx5.cell 2
        have b3 := hbx5.cell 3
        have b4 := hbx5.cell 4
        have b5 := hbx5.cell 5
        simp at b0 b1 b2 b3 b4 b5
        clear hbx5
        go_wp2_with (at_builtin; refine wpList_append_own _ rfl _ _ 22 rfl w.heap.size 46 i0 (.agg #[.int .u8 0, .int .u64 0, .int .u64 0, .int .u64 0, .int .u64 0, .slice none 0 0]) 6 64 Tryd.underlying22 hi0 hz0 hz1 hz2 rfl (by decide) _ _ _ rfl (HO5.out.own.alloc _) ⟨w5.heap.size, 0, none⟩ 1 1 [.int .u8 (x.kind : Int), .int .u64 (x.s0 : Int), .int .u64 (x.s1 : Int), .int .u64 (x.s2 : Int), .int .u64 (x.s3 : Int), .slice x.a xl x.cap] rfl rfl ?c1 ?c2 ?c3 ?c4 ?c5 ?_; rotate_left 5; intro v' w4 hown4 hg4 _; have HO4 := Lib.hid hown4; have HG4 := Lib.hid hg4; clear hown4 hg4)
        case c1 =>
          intro j u hj
          rw [Addr.add_lit, Nat.zero_add, (Blk.new w5 46 #[.int .u8 (x.kind : Int), .int .u64 (x.s0 : Int), .int .u64 (x.s1 : Int), .int .u64 (x.s2 : Int), .int .u64 (x.s3 : Int), .slice x.a xl x.cap]).cell j]
          simpa using hj
        case c2 => simp [Value.oneCell']
        case c3 => unfold maxLen; omega
        case c4 => omega
        case c5 => rw [World.size_alloc]; omega
        go_roundw
        case rel =>
          have hb7 : Below w.heap.size w5 w4 := ((Below.refl _ w5).alloc hws _).grown HG4.out (by rw [World.size_alloc]; omega) (fun r hr => by
            rcases HO5.out.own.2 with ⟨h1, _⟩ | ⟨g, cap, cur, h1, h2, _⟩
            · rw [h1] at hr; cases hr
            · rw [h1] at hr
              injection hr with hr
              have hr : g = r := hr
              omega)
          have hl4 : ((ls.take k).filter rightR ++ [x]).length = ((ls.take k).filter rightR).length + 1 := by simp
          refine ⟨k + 1, by omega, by go_num, ?_, HB6.out.trans hb7⟩
          rw [HTK.out, if_pos trivial]
          refine ⟨?_, fun t ht => ?_⟩
          · rw [hl4, List.flatMap_append]
            have := HO4.out
            rw [HXL.out] at this
            exact this
          · rcases List.mem_append.1 ht with ht | ht
            · exact HO5.out.ok t ht
            · obtain rfl := List.mem_singleton.1 ht
              exact HXO.out
        case measure => simp [intOf]; omega
    · obtain rfl : k = n := by omega
      go_wp2
      go_ret
      refine ⟨⟨_, rfl, ?_⟩, HBEL.out⟩
      have := HO.out
      rw [HN.out, List.take_length] at this
      exact this
end Go.Proofs.YtdckjjkaoecgaaaDoor
