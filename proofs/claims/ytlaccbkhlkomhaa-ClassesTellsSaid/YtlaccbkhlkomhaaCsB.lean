/-
  The contract of frankinglaw06.sets: the sets of a tree, behind those that are handed in. Conditions: the tree lies in memory; at most 100000 sets and nodes.
-/
import Derived.Test.YtlaccbkhlkomhaaCsA
import Derived.Test.YtlaccbkhlkomhaaRxR
namespace Go.Proofs.Ytlaccbkhlkomhaa
open Go.RowKit

theorem setsL_nil : setsL [] = [] := rfl
theorem setsL_app (l m : List Ry) : setsL (l ++ m) = setsL l ++ setsL m := by simp [setsL, preL_app]
theorem setsL_one (t : Ry) : setsL [t] = (if t.kind = 1 then [t.set] else []) ++ setsL t.kids := by
  unfold setsL
  rw [preL_cons]
  by_cases h : t.kind = 1 <;> simp [h, preL]
theorem setsL_len (l : List Ry) : (setsL l).length ≤ (preL l).length := by
  unfold setsL
  rw [List.length_map]
  exact List.length_filter_le _ _
theorem setsL_take {ks : List Ry} {k : Nat} (h : k < ks.length) : setsL (ks.take (k + 1)) = setsL (ks.take k) ++ setsL [ks[k]] := by
  rw [List.take_succ_eq_append_getElem h, setsL_app]
def setCells (V : List St) : List Value := V.flatMap setC
theorem setCells_len (V : List St) : (setCells V).length = V.length * 4 := by
  unfold setCells
  induction V with
  | nil => rfl
  | cons s r ih => rw [List.flatMap_cons, List.length_append, ih, List.length_cons]; show 4 + _ = _; omega
theorem setCells_app (V U : List St) : setCells (V ++ U) = setCells V ++ setCells U := by simp [setCells]
theorem setCells_one (s : St) : setCells [s] = [.int .u64 (s.s0 : Int), .int .u64 (s.s1 : Int), .int .u64 (s.s2 : Int), .int .u64 (s.s3 : Int)] := by simp [setCells, setC]
theorem setCells_at (V : List St) (i : Nat) (hi : i < V.length) (j : Nat) (hj : j < 4) : (setCells V)[i * 4 + j]? = (setC V[i])[j]? := by
  unfold setCells
  induction V generalizing i with
  | nil => simp at hi
  | cons t r ih =>
    rw [List.flatMap_cons]
    match i, hi with
    | 0, _ => rw [Nat.zero_mul, Nat.zero_add, List.getElem?_append_left (by show j < 4; omega)]; rfl
    | i + 1, hi =>
      rw [List.getElem?_append_right (by show 4 ≤ _; omega), show (i + 1) * 4 + j - (setC t).length = i * 4 + j from by show (i + 1) * 4 + j - 4 = _; omega]
      simp at hi
      rw [ih i hi]
      rfl
theorem infoSet : (Try.prog.info? 28).map (fun i => (i.zero, i.size, i.bytes)) = some (some (.agg #[.int .u64 0, .int .u64 0, .int .u64 0, .int .u64 0]), 4, 32) := by kernel_rfl
def SetsR (B : Nat) (w' : World) (V : List St) (t : Ry) (e : Ending) (w2 : World) : Prop :=
  ∃ v2, e = .returned v2 ∧ w2.ownsRow B 28 4 v2 (V ++ setsL [t]).length (setCells (V ++ setsL [t])) ∧ Below B w' w2
theorem own_keeps {B n : Nat} {e : TypeId} {v : Value} {xs : List Value} {w w' : World} {sz : Nat} {t : TypeId} {cs : Array Value} {g : Nat} (h : w.ownsRow B e sz v n xs) {W : World} (hg : W.grownBy w' v.ownBlock) (hb : Blk W g t cs) (hge : w.heap.size ≤ g) : Blk w' g t cs :=
  hb.kept hg (fun e => by
    have h1 := h.lt g e.symm
    omega)
def SetsSpec (w : World) (t : Ry) : Prop := ∀ (B : Nat), w.heap.size ≤ B → ∀ (V : List St) (v : Value) (w' : World), Below w.heap.size w w' → B ≤ w'.heap.size →
  w'.ownsRow B 28 4 v V.length (setCells V) → V.length + (preR t).length ≤ 100000 →
  Calls Try.prog 19 #[.agg (ryCells t).toArray, v] w' (SetsR B w' V t)
set_option maxRecDepth 100000 in
set_option maxHeartbeats 4000000 in
theorem sets_step {w : World} {S : Nat → Prop} (t : Ry) (h : RyIn w S t.a t.cap t.kids) (ih : ∀ x ∈ t.kids, SetsSpec w x) : SetsSpec w t := by
  obtain ⟨i0, hi0, hz0, hz1, hz2⟩ := info_parts infoSet
  intro B hB V v w' hb hs hown hN
  have HH := Lib.hid h
  have HIH := Lib.hid ih
  have HB := Lib.hid hb
  have HS := Lib.hid hs
  have hpl : (preR t).length = 1 + (preL t.kids).length := by rw [preR_eq, List.length_cons, Nat.add_comm]
  have hkl := preL_len t.kids
  obtain ⟨n, hn⟩ : ∃ n, n = t.kids.length := ⟨_, rfl⟩
  have HN := Lib.hid hn
  have hn9 : n ≤ 100000 := by omega
  have hv9 : V.length + 1 + (preL t.kids).length ≤ 100000 := by omega
  have HOWN := Lib.hid hown
  have HONE := Lib.hid (setsL_one t)
  have HBX := Lib.hid (Blk.new w' 42 (ryCells t).toArray)
  obtain ⟨cs, hcs⟩ : ∃ cs, cs = (ryCells t).toArray := ⟨_, rfl⟩
  rw [← hcs] at HBX ⊢
  have HCS : Hid (cs = #[.int .u8 (t.kind : Int), .int .u64 (t.s0 : Int), .int .u64 (t.s1 : Int), .int .u64 (t.s2 : Int), .int .u64 (t.s3 : Int), .slice t.a n t.cap]) := by show cs = #[.int .u8 (t.kind : Int), .int .u64 (t.s0 : Int), .int .u64 (t.s1 : Int), .int .u64 (t.s2 : Int), .int .u64 (t.s3 : Int), .slice t.a n t.cap]; rw [hcs, hn]; rfl
  have HOA : Hid (World.ownsRow (w'.alloc (.cells cs 42)) B 28 4 v V.length (setCells V)) := HOWN.out.alloc _
  have HLW : Hid (w'.heap.size < (World.heap (w'.alloc (.cells cs 42))).size ∧ Below B w' (w'.alloc (.cells cs 42))) := ⟨by simp, (Below.refl _ _).alloc HS.out _⟩
  have t0 : World.cell? (w'.alloc (.cells cs 42)) ⟨w'.heap.size, 0, none⟩ = some (.int .u8 (t.kind : Int)) := by rw [HBX.out.cell 0, HCS.out]; rfl
  have t1 : World.cell? (w'.alloc (.cells cs 42)) ⟨w'.heap.size, 1, none⟩ = some (.int .u64 (t.s0 : Int)) := by rw [HBX.out.cell 1, HCS.out]; rfl
  have t2 : World.cell? (w'.alloc (.cells cs 42)) ⟨w'.heap.size, 2, none⟩ = some (.int .u64 (t.s1 : Int)) := by rw [HBX.out.cell 2, HCS.out]; rfl
  have t3 : World.cell? (w'.alloc (.cells cs 42)) ⟨w'.heap.size, 3, none⟩ = some (.int .u64 (t.s2 : Int)) := by rw [HBX.out.cell 3, HCS.out]; rfl
  have t4 : World.cell? (w'.alloc (.cells cs 42)) ⟨w'.heap.size, 4, none⟩ = some (.int .u64 (t.s3 : Int)) := by rw [HBX.out.cell 4, HCS.out]; rfl
  have t5 : World.cell? (w'.alloc (.cells cs 42)) ⟨w'.heap.size, 5, none⟩ = some (.slice t.a n t.cap) := by rw [HBX.out.cell 5, HCS.out]; rfl
  clear h ih hb hs hown hN hpl hkl hn hcs
  go_enter Try.func19, Try.ntmps19
  go_upto_if 9 with (fail)
  generalize (w'.alloc (.cells cs 42)) = W0 at *
  go_cut [1] (fun v1 wx => Hid (∃ V1 : List St, V1 = V ++ (if t.kind = 1 then [t.set] else []) ∧ wx.ownsRow B 28 4 v1 V1.length (setCells V1) ∧ Below B w' wx ∧ Blk wx w'.heap.size 42 cs))
  case first =>
    by_cases h1 : t.kind = 1
    · have h1' : (t.kind : Int) = 1 := by omega
      have hvl : V.length ≤ 100000 := by omega
      go_wp2_with (at_builtin; refine wpList_append_own _ rfl _ _ 43 rfl B 28 i0 (.agg #[.int .u64 0, .int .u64 0, .int .u64 0, .int .u64 0]) 4 32 Try.underlying43 hi0 hz0 hz1 hz2 rfl (by decide) _ _ _ rfl (HOA.out.alloc _) ⟨W0.heap.size, 0, none⟩ 1 1 [.int .u64 (t.s0 : Int), .int .u64 (t.s1 : Int), .int .u64 (t.s2 : Int), .int .u64 (t.s3 : Int)] rfl rfl ?c1 ?c2 ?c3 ?c4 ?c5 ?_; rotate_left 5; intro v' w4 hown4 hg4 _; have HO4 := Lib.hid hown4; have HG4 := Lib.hid hg4; clear hown4 hg4)
      case c1 =>
        intro j u hj
        rw [Addr.add_lit, Nat.zero_add, (Blk.new W0 28 #[.int .u64 (t.s0 : Int), .int .u64 (t.s1 : Int), .int .u64 (t.s2 : Int), .int .u64 (t.s3 : Int)]).cell j]
        simpa using hj
      case c2 => simp [Value.oneCell']
      case c3 => unfold maxLen; omega
      case c4 => omega
      case c5 => have := HLW.out.2.size; have := HS.out; rw [World.size_alloc]; omega
      go_meet
      refine ⟨V ++ [t.set], by rw [if_pos h1], ?_, ?_, ?_⟩
      · rw [setCells_app, List.length_append, List.length_singleton, setCells_one]
        exact HO4.out
      · refine HLW.out.2.trans (((Below.refl B W0).alloc (by have := HLW.out.2.size; have := HS.out; omega) _).grown HG4.out (by have := HLW.out.2.size; have := HS.out; rw [World.size_alloc]; omega) (fun r hr => (HOA.out.lt r hr).1))
      · exact own_keeps HOWN.out HG4.out (HBX.out.alloc _) (Nat.le_refl _)
    · have h1' : ¬ (t.kind : Int) = 1 := by omega
      go_wp2
      go_meet
      exact ⟨V, by rw [if_neg h1, List.append_nil], HOA.out, HLW.out.2, HBX.out⟩
  case rest =>
    obtain ⟨V1, hV1, ho1, hb1, hx1⟩ := hcut
    have c5 : wc.cell? ⟨w'.heap.size, 5, none⟩ = some (.slice t.a n t.cap) := by rw [hx1.cell 5, HCS.out]; rfl
    have hl1 : V1.length ≤ V.length + 1 := by rw [hV1]; split <;> simp
    have HV1 := Lib.hid hV1
    have HO1 := Lib.hid ho1
    have HB1 := Lib.hid hb1
    clear hV1 ho1 hb1 hx1 t0 t1 t2 t3 t4 t5 HBX HOA HLW HOWN
    go_wp2
    go_loopw [1, 18] (fun v2 i wr => ∃ k : Nat, k ≤ n ∧ i = .int .i64 k ∧ Hid (wr.ownsRow B 28 4 v2 (V1 ++ setsL (t.kids.take k)).length (setCells (V1 ++ setsL (t.kids.take k)))) ∧ Hid (Below B w' wr)) (fun _ i _ => n - (intOf i).toNat)
    case atStart => exact ⟨0, Nat.zero_le _, rfl, by rw [List.take_zero, setsL_nil, List.append_nil]; exact HO1.out, HB1.out⟩
    case round =>
      obtain ⟨k, hk, rfl, HO, HBL⟩ := hrel
      obtain ⟨o, ho⟩ : ∃ o, u1 = o := ⟨_, rfl⟩
      rw [ho] at HO ⊢
      clear ho
      by_cases hlt : k < n
      · have hlt' : (k : Int) < n := by omega
        have h0' : (0 : Int) ≤ k := by omega
        have hko : k < t.kids.length := by rw [← HN.out]; exact hlt
        have hwb : Below w.heap.size w wr := HB.out.trans (HBL.out.mono hB)
        obtain ⟨b, off, hab, hbl, _, hxok, hxc, hxk⟩ := HH.out.at_ hko
        rw [hab]
        obtain ⟨x, hx⟩ : ∃ x, x = t.kids[k]'hko := ⟨_, rfl⟩
        rw [← hx] at hxc hxk hxok
        have hcw : ∀ o, wr.cell? ⟨b, o, none⟩ = w.cell? ⟨b, o, none⟩ := fun o => hwb.cell (p := ⟨b, o, none⟩) hbl
        have a0 := (hcw (off + k * 6 + 0)).trans (hxc 0 _ rfl)
        have a1 := (hcw (off + k * 6 + 1)).trans (hxc 1 _ rfl)
        have a2 := (hcw (off + k * 6 + 2)).trans (hxc 2 _ rfl)
        have a3 := (hcw (off + k * 6 + 3)).trans (hxc 3 _ rfl)
        have a4 := (hcw (off + k * 6 + 4)).trans (hxc 4 _ rfl)
        have a5 := (hcw (off + k * 6 + 5)).trans (hxc 5 _ rfl)
        rw [Nat.add_zero] at a0
        have hst := setsL_take hko
        rw [← hx] at hst
        have hpt := preL_take hko
        rw [← hx] at hpt
        have hpl : (preL (t.kids.take (k + 1))).length ≤ (preL t.kids).length := by
          have := congrArg (fun l => (preL l).length) (List.take_append_drop (k + 1) t.kids)
          simp only [preL_app, List.length_append] at this
          omega
        have hpr : (preR x).length = 1 + (preL x.kids).length := by rw [preR_eq, List.length_cons, Nat.add_comm]
        have hsl := setsL_len (t.kids.take k)
        have hbs := HBL.out.size
        have hsw := HS.out
        have HREC := Lib.hid (HIH.out x (by rw [hx]; exact List.getElem_mem _) B hB (V1 ++ setsL (t.kids.take k)) o (wr.alloc (.cells (ryCells x).toArray 42)) (hwb.alloc hwb.size _) (by rw [World.size_alloc]; omega) (HO.out.alloc _) (by rw [List.length_append]; omega))
        have HST := Lib.hid hst
        have HBW : Hid (Below B w' (wr.alloc (.cells (ryCells x).toArray 42))) := HBL.out.alloc (by omega) _
        obtain ⟨xl, hxl⟩ : ∃ xl, xl = x.kids.length := ⟨_, rfl⟩
        unfold ryCells at HREC HBW
        rw [← hxl] at a5 HREC HBW
        clear hx hxc hxk hxok hcw hbl hst hpt hpl hpr hsl hbs hsw hwb hxl
        go_wp2_with (go_at_call 19; refine HREC.out.mono ?_; rintro e w5 ⟨v5, rfl, ho5, hb5⟩; have HO5 := Lib.hid ho5; have HB5 := Lib.hid hb5; clear ho5 hb5)
        go_roundw
        case rel =>
          refine ⟨k + 1, by omega, by go_num, ?_, HBW.out.trans HB5.out⟩
          have h1 := HO5.out
          rw [List.append_assoc, ← HST.out] at h1
          exact h1
        case measure => simp [intOf]; omega
      · obtain rfl : k = n := by omega
        go_wp2
        go_ret
        refine ⟨_, rfl, ?_, HBL.out⟩
        have h1 := HO.out
        rw [HN.out, List.take_length, HV1.out, List.append_assoc, ← HONE.out] at h1
        exact h1
theorem sets_aux {w : World} {S : Nat → Prop} {a : Option Addr} {c : Nat} {ks : List Ry} (h : RyIn w S a c ks) : ∀ x ∈ ks, SetsSpec w x := by
  induction h with
  | nil a c => intro x hx; cases hx
  | row ks b off c hS hlt hn hcap hm hok hc hk ih =>
    intro x hx
    obtain ⟨i, hi, rfl⟩ := List.getElem_of_mem hx
    exact sets_step _ (hk i hi) (ih i hi)
/-- the sets of a tree, from nothing on -/
theorem sets_any (t : Ry) (w W : World) (hk : RyIn w (· < w.heap.size) t.a t.cap t.kids) (hb : Below w.heap.size w W) (hN : (preR t).length ≤ 100000) :
    Calls Try.prog 19 #[.agg (ryCells t).toArray, .slice none 0 0] W fun e w2 => ∃ v2, e = .returned v2 ∧ w2.ownsRow W.heap.size 28 4 v2 (setsL [t]).length (setCells (setsL [t])) ∧ Below W.heap.size W w2 :=
  sets_step t hk (sets_aux hk) W.heap.size hb.size [] (.slice none 0 0) W hb (Nat.le_refl _) (World.ownsRow_nil _ _ _ _) (by simpa using hN)
end Go.Proofs.Ytlaccbkhlkomhaa
