/-
  The contract of frankinglow.ReNodes: it answers how many nodes there are, or more than the bound. Conditions: the tree lies in memory; a bound of at most 300.
-/
import Derived.Test.YtdckjjkaoecgaaaDoorRxA
namespace Go.Proofs.YtdckjjkaoecgaaaDoor
open Go.RowKit

def NodesR (most len : Nat) (e : Ending) : Prop := ∃ m : Nat, e = .returned (.int .i64 m) ∧ 1 ≤ m ∧ m ≤ most + 1 ∧ (m ≤ most → len = m)
set_option maxRecDepth 100000 in
set_option maxHeartbeats 1600000 in
theorem reNodes_aux {w : World} {S : Nat → Prop} {a : Option Addr} {c : Nat} {ks : List Ry} (h : RyIn w S a c ks) : ∀ (t : Ry), t.kids = ks → t.a = a → t.cap = c → ∀ (most : Nat) (w' : World), most ≤ 300 → Below w.heap.size w w' →
    Calls Tryd.prog 26 #[.agg (ryCells t).toArray, .int .i64 most] w' fun e w2 => NodesR most (preR t).length e ∧ Below w'.heap.size w' w2 := by
  induction h with
  | nil a c =>
    intro t ht hta htc most w' hmost hw
    have HT : Hid ((preR t).length = 1) := by show _ = _; rw [preR_eq, ht]; rfl
    have HB : Hid (Below w'.heap.size w' (w'.alloc (.cells (ryCells t).toArray 46))) := (Below.refl _ _).alloc (Nat.le_refl _) _
    unfold ryCells at HB ⊢
    rw [ht] at HB ⊢
    clear ht hta htc
    go_enter Tryd.func26, Tryd.ntmps26
    go_wp2
    go_loopw [5, 10] (fun c i wr => c = .int .i64 1 ∧ i = .int .i64 0 ∧ Below w'.heap.size w' wr) (fun _ _ _ => 0)
    case atStart => exact ⟨rfl, rfl, HB.out⟩
    case round =>
      obtain ⟨rfl, rfl, hbel⟩ := hrel
      go_wp2
      go_ret
      exact ⟨⟨1, rfl, Nat.le_refl _, by omega, fun _ => HT.out⟩, hbel⟩
  | row kids b off cap hS hlt hn hcap hm hok hc hk ih =>
    intro t ht hta htc most w' hmost hw
    have HIH : Hid (∀ (i : Nat) (x : Ry), kids[i]? = some x → ∀ (most : Nat) (w' : World), most ≤ 300 → Below w.heap.size w w' → Calls Tryd.prog 26 #[.agg (ryCells x).toArray, .int .i64 most] w' fun e w2 => NodesR most (preR x).length e ∧ Below w'.heap.size w' w2) := by
      intro i x hx
      obtain ⟨hi, he⟩ := List.getElem?_eq_some_iff.1 hx
      subst he
      exact ih i hi _ rfl rfl rfl
    have HC : Hid (∀ (i : Nat) (x : Ry), kids[i]? = some x → ∀ j u, (ryCells x)[j]? = some u → w.cell? ⟨b, off + i * 6 + j, none⟩ = some u) := by
      intro i x hx
      obtain ⟨hi, he⟩ := List.getElem?_eq_some_iff.1 hx
      subst he
      exact hc i hi
    have HT : Hid ((preR t).length = 1 + (preL kids).length) := by show _ = _; rw [preR_eq, ht, List.length_cons, Nat.add_comm]
    have HP : Hid (∀ (k : Nat) (x : Ry), kids[k]? = some x → (preL (kids.take (k + 1))).length = (preL (kids.take k)).length + (preR x).length) := by
      intro k x hx
      rw [List.take_add_one, hx, preL_app, List.length_append]
      simp [preL]
    have HTK : Hid (kids.take kids.length = kids) := List.take_length
    have hm' := hm
    unfold maxLen at hm'
    have HB0 : Hid (Below w'.heap.size w' (w'.alloc (.cells (ryCells t).toArray 46))) := (Below.refl _ _).alloc (Nat.le_refl _) _
    have HBa : Hid (Blk (w'.alloc (.cells (ryCells t).toArray 46)) w'.heap.size 46 (ryCells t).toArray) := Blk.new _ _ _
    unfold ryCells at HB0 HBa ⊢
    rw [ht, hta, htc] at HB0 HBa ⊢
    clear ih hc hk hok hS ht hm hcap hta htc
    have HW := Lib.hid hw
    have hwz := hw.size
    clear hw
    generalize hlen : kids.length = n at *
    have HL := Lib.hid hlen
    clear hlen
    go_enter Tryd.func26, Tryd.ntmps26
    go_wp2
    generalize w'.alloc (.cells #[.int .u8 (t.kind : Int), .int .u64 (t.s0 : Int), .int .u64 (t.s1 : Int), .int .u64 (t.s2 : Int), .int .u64 (t.s3 : Int), .slice (some ⟨b, off, none⟩) n cap] 46) = W0 at *
    go_loopw [5, 6, 10] (fun c _ i wr => ∃ k m : Nat, k ≤ n ∧ i = .int .i64 k ∧ c = .int .i64 m ∧ 1 ≤ m ∧ m ≤ most + 1 ∧ Hid (m ≤ most → 1 + (preL (kids.take k)).length = m) ∧ Below W0.heap.size W0 wr) (fun _ _ i _ => n - (intOf i).toNat)
    case atStart => exact ⟨0, 1, Nat.zero_le _, rfl, rfl, Nat.le_refl _, by omega, fun _ => rfl, Below.refl _ _⟩
    case round =>
      obtain ⟨k, m, hk, rfl, rfl, hm1, hm2, HM, hbel⟩ := hrel
      have hBW : Below w'.heap.size w' wr := HB0.out.trans (hbel.mono HB0.out.size)
      have hWW : Below w.heap.size w wr := HW.out.trans (hBW.mono hwz)
      by_cases hlt2 : k < n
      · have hlt' : (k : Int) < n := by omega
        have h0' : (0 : Int) ≤ k := by omega
        by_cases h1 : m ≤ most
        · have h1' : ¬ (most : Int) < m := by omega
          obtain ⟨x, hx⟩ : ∃ x, kids[k]? = some x := ⟨_, List.getElem?_eq_getElem (by rw [HL.out]; exact hlt2)⟩
          have hcx := HC.out k x hx
          have hcw : ∀ o, wr.cell? ⟨b, o, none⟩ = w.cell? ⟨b, o, none⟩ := fun o => hWW.cell (p := ⟨b, o, none⟩) hlt
          have a0 := (hcw (off + k * 6 + 0)).trans (hcx 0 _ rfl)
          have a1 := (hcw (off + k * 6 + 1)).trans (hcx 1 _ rfl)
          have a2 := (hcw (off + k * 6 + 2)).trans (hcx 2 _ rfl)
          have a3 := (hcw (off + k * 6 + 3)).trans (hcx 3 _ rfl)
          have a4 := (hcw (off + k * 6 + 4)).trans (hcx 4 _ rfl)
          have a5 := (hcw (off + k * 6 + 5)).trans (hcx 5 _ rfl)
          rw [Nat.add_zero] at a0
          have HREC : Hid (∀ (W' : World), Below w.heap.size w W' → Calls Tryd.prog 26 #[.agg (ryCells x).toArray, .int .i64 ((most : Int) - m)] W' fun e w2 => NodesR (most - m) (preR x).length e ∧ Below W'.heap.size W' w2) := by
            intro W' hW'
            have := HIH.out k x hx (most - m) W' (by omega) hW'
            rw [Int.ofNat_sub h1] at this
            exact this
          have HSP := Lib.hid (HP.out k x hx)
          have hca := (HBa.out.below hbel HBa.out.lt).cell 5
          have HBEL := Lib.hid hbel
          have HWW := Lib.hid hWW
          unfold ryCells at HREC
          clear hx hbel hWW hBW hcx hcw
          generalize x.kids.length = xl at *
          generalize (preR x).length = pl at *
          simp at hca
          go_wp2_with (go_at_call 26; refine (HREC.out _ HWW.out).mono ?_)
          rintro e w5 ⟨m2, rfl, hm3, hm4, hm5⟩ hb5
          have hbel5 : Below W0.heap.size W0 w5 := HBEL.out.trans (hb5.mono HBEL.out.size)
          have HM5 := Lib.hid hm5
          clear hca hm5
          go_wp2
          go_roundw
          case rel => exact ⟨k + 1, m + m2, by omega, by go_num, by go_num, by omega, by omega, fun hle => by rw [HSP.out, ← HM5.out (by omega), ← HM.out (by omega)]; omega, hbel5⟩
          case measure => simp [intOf]; omega
        · have h1' : (most : Int) < m := by omega
          go_wp2
          go_ret
          exact ⟨⟨most + 1, by go_num, by omega, Nat.le_refl _, fun h => by omega⟩, hBW⟩
      · obtain rfl : k = n := by omega
        go_wp2
        go_ret
        exact ⟨⟨m, rfl, hm1, hm2, fun h => by rw [HT.out, ← HM.out h, HTK.out]⟩, hBW⟩
theorem reNodes_any (t : Ry) (w : World) (h : RyIn w (· < w.heap.size) t.a t.cap t.kids) (most : Nat) (hm : most ≤ 300) :
    Calls Tryd.prog 26 #[.agg (ryCells t).toArray, .int .i64 most] w fun e w2 => NodesR most (preR t).length e ∧ Below w.heap.size w w2 := reNodes_aux h t rfl rfl rfl most w hm (Below.refl _ _)
end Go.Proofs.YtdckjjkaoecgaaaDoor
