/-
  The contract of frankinglaw07.states: how many states a tree makes. Conditions: the tree lies in memory; at most 100000 nodes.
-/
import Derived.Test.YtdckjjkaoecgaaaDoorRxA
import Derived.BigQuiet
import Derived.Deep.DeepCutAuto
import Derived.Deep.CutBlock
import Derived.Outline
namespace Go.Proofs.YtdckjjkaoecgaaaDoor
open Go.RowKit

/-- what a node makes -/
def ownZ (x : Ry) : Int := if x.kind = 1 ∨ x.kind = 4 then 1 else if x.kind = 3 then (x.kids.length : Int) - 1 else 0
mutual
def statesR : Ry → Int
  | .mk k s0 s1 s2 s3 a c ks => ownZ (.mk k s0 s1 s2 s3 a c ks) + statesL ks
def statesL : List Ry → Int
  | [] => 0
  | t :: r => statesR t + statesL r
end
theorem statesR_eq (t : Ry) : statesR t = ownZ t + statesL t.kids := by
  cases t
  simp only [statesR]
  rfl
theorem own_le (x : Ry) : -1 ≤ ownZ x ∧ ownZ x ≤ 1 + (x.kids.length : Int) := by
  unfold ownZ
  (repeat' split) <;> omega
mutual
theorem stR_b : ∀ t : Ry, -((preR t).length : Int) ≤ statesR t ∧ statesR t + 1 ≤ 2 * ((preR t).length : Int)
  | .mk k s0 s1 s2 s3 a c ks => by
    have h1 := stL_b ks
    have h2 := own_le (.mk k s0 s1 s2 s3 a c ks)
    rw [statesR, preR, List.length_cons]
    have h3 : (Ry.mk k s0 s1 s2 s3 a c ks).kids.length = ks.length := rfl
    rw [h3] at h2
    push_cast
    omega
theorem stL_b : ∀ l : List Ry, -((preL l).length : Int) ≤ statesL l ∧ statesL l + (l.length : Int) ≤ 2 * ((preL l).length : Int)
  | [] => by simp [statesL, preL]
  | t :: r => by
    have h1 := stR_b t
    have h2 := stL_b r
    rw [statesL, preL, List.length_append, List.length_cons]
    push_cast
    omega
end
theorem statesL_app (l : List Ry) (t : Ry) : statesL (l ++ [t]) = statesL l + statesR t := by
  induction l with
  | nil => simp [statesL]
  | cons x r ih => rw [List.cons_append, statesL, ih, statesL]; omega
theorem pre_take (l : List Ry) (k : Nat) : (preL (l.take k)).length ≤ (preL l).length := by
  have h : preL l = preL (l.take k) ++ preL (l.drop k) := by rw [← preL_app, List.take_append_drop]
  rw [h, List.length_append]
  omega
set_option maxHeartbeats 1600000 in
theorem states_aux {w : World} {S : Nat → Prop} {a : Option Addr} {c : Nat} {ks : List Ry} (h : RyIn w S a c ks) : ∀ (t : Ry), t.kids = ks → t.a = a → t.cap = c → (preR t).length ≤ 100000 → ∀ (w' : World), Below w.heap.size w w' →
    Calls Tryd.prog 23 #[.agg (ryCells t).toArray] w' fun e w2 => e = .returned (.int .i64 (statesR t)) ∧ Below w'.heap.size w' w2 := by
  induction h with
  | nil a c =>
    intro t ht hta htc hpl w' hw
    have HT : Hid (statesR t = ownZ t) := by show _ = _; rw [statesR_eq, ht]; simp [statesL]
    have HB : Hid (Below w'.heap.size w' (w'.alloc (.cells (ryCells t).toArray 46))) := (Below.refl _ _).alloc (Nat.le_refl _) _
    have HBa : Hid (Blk (w'.alloc (.cells (ryCells t).toArray 46)) w'.heap.size 46 (ryCells t).toArray) := Blk.new _ _ _
    have HO : Hid (ownZ t = if t.kind = 1 ∨ t.kind = 4 then 1 else if t.kind = 3 then -1 else 0) := by
      show _ = _
      unfold ownZ
      rw [ht]
      rfl
    obtain ⟨z, hz⟩ : ∃ z, z = ownZ t := ⟨_, rfl⟩
    rw [← hz] at HT HO
    unfold ryCells at HB HBa ⊢
    rw [ht] at HB HBa ⊢
    clear ht hta htc hz hpl
    obtain ⟨W0, hW0⟩ : ∃ W0, W0 = w'.alloc (.cells #[.int .u8 (t.kind : Int), .int .u64 (t.s0 : Int), .int .u64 (t.s1 : Int), .int .u64 (t.s2 : Int), .int .u64 (t.s3 : Int), .slice t.a 0 t.cap] 46) := ⟨_, rfl⟩
    go_enter Tryd.func23, Tryd.ntmps23
    go_upto_region 2 with fail
    rw [← hW0]
    have HB2 : Hid (Below w'.heap.size w' W0) := by rw [hW0]; exact HB.out
    have HBa2 : Hid (Blk W0 w'.heap.size 46 #[.int .u8 (t.kind : Int), .int .u64 (t.s0 : Int), .int .u64 (t.s1 : Int), .int .u64 (t.s2 : Int), .int .u64 (t.s3 : Int), .slice t.a 0 t.cap]) := by rw [hW0]; exact HBa.out
    clear hW0 HB HBa
    have c0 := HBa2.out.cell 0
    have c5 := HBa2.out.cell 5
    simp at c0 c5
    have HZB : Hid (-1 ≤ z ∧ z ≤ 281474976710657) := by
      show _ ∧ _
      rw [HO.out]
      (repeat' split) <;> omega
    go_upto_block 0 with fail
    go_cut [3] (fun v wx => v = .int .i64 z ∧ W0 = wx)
    case first =>
      have hzb : -1 ≤ z ∧ z ≤ 281474976710657 := HZB.out
      clear HT HB2 HBa2
      generalize t.kind = k at *
      cases hz1 : ((k : Int) == 1) <;> cases hz4 : ((k : Int) == 4) <;> cases hz3 : ((k : Int) == 3) <;> go_wp2
      all_goals go_meet
      all_goals refine ⟨congrArg (Value.int .i64) ?_, rfl⟩
      all_goals rw [HO.out]
      all_goals simp only [beq_iff_eq, beq_eq_false_iff_ne, ne_eq] at hz1 hz4 hz3
      all_goals ((repeat' split) <;> omega)
    case rest =>
      obtain ⟨rfl, rfl⟩ := hcut
      clear c0
      go_wp2
      go_loopw [3, 24] (fun v i wr => v = .int .i64 z ∧ i = .int .i64 0 ∧ Hid (Below W0.heap.size W0 wr)) (fun _ _ _ => 0)
      case atStart => exact ⟨rfl, rfl, Below.refl _ _⟩
      case round =>
        obtain ⟨rfl, rfl, HL⟩ := hrel
        go_wp2
        go_ret
        exact ⟨ret_int HT.out.symm, HB2.out.trans (HL.out.mono HB2.out.size)⟩
  | row kids b off cap hS hlt hn hcap hm hok hc hk ih =>
    intro t ht hta htc hpl w' hw
    have HIH : Hid (∀ (i : Nat) (x : Ry), kids[i]? = some x → (preR x).length ≤ 100000 → ∀ (w' : World), Below w.heap.size w w' → Calls Tryd.prog 23 #[.agg (ryCells x).toArray] w' fun e w2 => e = .returned (.int .i64 (statesR x)) ∧ Below w'.heap.size w' w2) := by
      intro i x hx
      obtain ⟨hi, he⟩ := List.getElem?_eq_some_iff.1 hx
      subst he
      exact ih i hi _ rfl rfl rfl
    have HC : Hid (∀ (i : Nat) (x : Ry), kids[i]? = some x → ∀ j u, (ryCells x)[j]? = some u → w.cell? ⟨b, off + i * 6 + j, none⟩ = some u) := by
      intro i x hx
      obtain ⟨hi, he⟩ := List.getElem?_eq_some_iff.1 hx
      subst he
      exact hc i hi
    have hpk : (preL kids).length + 1 ≤ 100000 := by rw [preR_eq, ht, List.length_cons] at hpl; omega
    have HP : Hid (∀ (k : Nat) (x : Ry), kids[k]? = some x → statesL (kids.take (k + 1)) = statesL (kids.take k) + statesR x ∧ (preR x).length + 1 ≤ 100000) := by
      intro k x hx
      have h1 := pre_take kids (k + 1)
      rw [List.take_add_one, hx] at h1 ⊢
      refine ⟨statesL_app _ _, ?_⟩
      rw [preL_app, List.length_append] at h1
      have h2 : preL (some x).toList = preR x ++ [] := by simp [preL]
      rw [h2, List.append_nil] at h1
      omega
    have HBD : Hid (∀ k, -100000 ≤ statesL (kids.take k) ∧ statesL (kids.take k) ≤ 200000) := fun k => by
      have h1 := stL_b (kids.take k)
      have h2 := pre_take kids k
      omega
    have HBX : Hid (∀ x : Ry, (preR x).length + 1 ≤ 100000 → -100000 ≤ statesR x ∧ statesR x ≤ 200000) := fun x hx => by
      have h1 := stR_b x
      omega
    have HTK : Hid (kids.take kids.length = kids) := List.take_length
    have HT : Hid (statesR t = ownZ t + statesL kids) := by show _ = _; rw [statesR_eq, ht]
    have HO : Hid (ownZ t = if t.kind = 1 ∨ t.kind = 4 then 1 else if t.kind = 3 then (kids.length : Int) - 1 else 0) := by
      show _ = _
      unfold ownZ
      rw [ht]
    have hm' := hm
    unfold maxLen at hm'
    have hkl : kids.length ≤ 300000 := by have h1 := stL_b kids; omega
    obtain ⟨z, hz⟩ : ∃ z, z = ownZ t := ⟨_, rfl⟩
    rw [← hz] at HT HO
    obtain ⟨n, hnn⟩ : ∃ n, n = kids.length := ⟨_, rfl⟩
    have HNL := Lib.hid hnn
    have HB : Hid (Below w'.heap.size w' (w'.alloc (.cells (ryCells t).toArray 46))) := (Below.refl _ _).alloc (Nat.le_refl _) _
    have HBa : Hid (Blk (w'.alloc (.cells (ryCells t).toArray 46)) w'.heap.size 46 (ryCells t).toArray) := Blk.new _ _ _
    have HW := Lib.hid hw
    unfold ryCells at HB HBa ⊢
    rw [ht, hta, htc, ← hnn] at HB HBa ⊢
    rw [← hnn] at HO hkl HTK
    clear ih hc hk hok hS ht hm hcap hta htc hz hpl hpk hnn hn hw
    obtain ⟨W0, hW0⟩ : ∃ W0, W0 = w'.alloc (.cells #[.int .u8 (t.kind : Int), .int .u64 (t.s0 : Int), .int .u64 (t.s1 : Int), .int .u64 (t.s2 : Int), .int .u64 (t.s3 : Int), .slice (some ⟨b, off, none⟩) n cap] 46) := ⟨_, rfl⟩
    go_enter Tryd.func23, Tryd.ntmps23
    go_upto_region 2 with fail
    rw [← hW0]
    have HB2 : Hid (Below w'.heap.size w' W0) := by rw [hW0]; exact HB.out
    have HBa2 : Hid (Blk W0 w'.heap.size 46 #[.int .u8 (t.kind : Int), .int .u64 (t.s0 : Int), .int .u64 (t.s1 : Int), .int .u64 (t.s2 : Int), .int .u64 (t.s3 : Int), .slice (some ⟨b, off, none⟩) n cap]) := by rw [hW0]; exact HBa.out
    clear hW0 HB HBa
    have c0 := HBa2.out.cell 0
    have c5 := HBa2.out.cell 5
    simp at c0 c5
    have HZB : Hid (-1 ≤ z ∧ z ≤ 281474976710657) := by
      show _ ∧ _
      rw [HO.out]
      (repeat' split) <;> omega
    have hzs : z ≤ 300000 := by
      rw [HO.out]
      (repeat' split) <;> omega
    go_upto_block 0 with fail
    go_cut [3] (fun v wx => v = .int .i64 z ∧ W0 = wx)
    case first =>
      have hzb : -1 ≤ z ∧ z ≤ 281474976710657 := HZB.out
      clear HT HB2 HBa2
      generalize t.kind = k at *
      cases hz1 : ((k : Int) == 1) <;> cases hz4 : ((k : Int) == 4) <;> cases hz3 : ((k : Int) == 3) <;> go_wp2
      all_goals go_meet
      all_goals refine ⟨congrArg (Value.int .i64) ?_, rfl⟩
      all_goals rw [HO.out]
      all_goals simp only [beq_iff_eq, beq_eq_false_iff_ne, ne_eq] at hz1 hz4 hz3
      all_goals ((repeat' split) <;> omega)
    case rest =>
      obtain ⟨rfl, rfl⟩ := hcut
      clear c0
      have HLW : Hid (Below w.heap.size w W0) := HW.out.trans (HB2.out.mono HW.out.size)
      go_wp2
      go_loopw [3, 5, 24] (fun v _ i wr => ∃ k : Nat, k ≤ n ∧ i = .int .i64 (k : Int) ∧ v = .int .i64 (z + statesL (kids.take k)) ∧ Hid (Below W0.heap.size W0 wr)) (fun _ _ i _ => n - (intOf i).toNat)
      case atStart => exact ⟨0, Nat.zero_le _, rfl, by simp [statesL], Below.refl _ _⟩
      case round =>
        obtain ⟨k, hk, rfl, rfl, HL⟩ := hrel
        by_cases hlt2 : k < n
        · have hlt' : (k : Int) < n := by omega
          have h0' : (0 : Int) ≤ k := by omega
          obtain ⟨x, hx⟩ : ∃ x, kids[k]? = some x := ⟨_, List.getElem?_eq_getElem (by rw [← HNL.out]; exact hlt2)⟩
          have hcw : ∀ j u, (ryCells x)[j]? = some u → wr.cell? ⟨b, off + k * 6 + j, none⟩ = some u := fun j u hj => ((HLW.out.trans (HL.out.mono HLW.out.size)).cell (p := ⟨b, off + k * 6 + j, none⟩) hlt).trans (HC.out k x hx j u hj)
          have a0 := hcw 0 _ rfl
          have a1 := hcw 1 _ rfl
          have a2 := hcw 2 _ rfl
          have a3 := hcw 3 _ rfl
          have a4 := hcw 4 _ rfl
          have a5 := hcw 5 _ rfl
          rw [Nat.add_zero] at a0
          obtain ⟨hs1, hs2⟩ := HP.out k x hx
          have HREC := Lib.hid (HIH.out k x hx (by omega))
          have hb1 := HBD.out k
          have hb2 := HBX.out x hs2
          have HS := Lib.hid hs1
          have HLA : Hid (Below W0.heap.size W0 (wr.alloc (.cells (ryCells x).toArray 46))) := HL.out.alloc HL.out.size _
          unfold ryCells at HREC HLA
          obtain ⟨xl, hxl⟩ : ∃ xl, xl = x.kids.length := ⟨_, rfl⟩
          rw [← hxl] at a5 HREC HLA
          have hzb := HZB.out
          clear hcw hx hs1 hs2 hxl
          generalize statesR x = sx at *
          generalize statesL (kids.take k) = sk at *
          go_wp2_with (go_at_call 23; refine (HREC.out _ (HLW.out.trans (HLA.out.mono HLW.out.size))).mono ?_; rintro e w5 ⟨rfl, hb5⟩; have HL5 := Lib.hid (HLA.out.trans (hb5.mono HLA.out.size)); clear hb5)
          refine ⟨⟨k + 1, hlt2, by push_cast; rfl, ?_, HL5⟩, by simp [intOf]; omega⟩
          rw [HS.out, Int.add_assoc]
        · obtain rfl : k = n := by omega
          go_wp2
          go_ret
          exact ⟨ret_int (by rw [HT.out, HTK.out]), HB2.out.trans (HL.out.mono HB2.out.size)⟩
theorem states_any (t : Ry) (w : World) (h : RyIn w (· < w.heap.size) t.a t.cap t.kids) (hp : (preR t).length ≤ 100000) :
    Calls Tryd.prog 23 #[.agg (ryCells t).toArray] w fun e w2 => e = .returned (.int .i64 (statesR t)) ∧ Below w.heap.size w w2 := states_aux h t rfl rfl rfl hp w (Below.refl _ _)
end Go.Proofs.YtdckjjkaoecgaaaDoor
