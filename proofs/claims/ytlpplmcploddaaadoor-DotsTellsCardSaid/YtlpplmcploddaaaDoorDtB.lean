/-
  The contracts of dots.stuffed, dots.unstuffed, dots.Stuff, dots.Unstuff. Conditions: bytes lie in memory, what is appended to is the call's own; sizes within Go's own bounds.
-/
import Derived.Test.YtlpplmcploddaaaDoorDtA
import Derived.Test.YtlpplmcploddaaaDoorFrM
import Derived.RangeFuncCalls
import Derived.Lib.AppendStr
import Derived.Lib.SmallJoins
import Derived.Outline
namespace Go.Proofs.YtlpplmcploddaaaDoor
open Go.RowKit Go.Shelf

/-- bytes in a row of one's own, from a base on; what was below the base is as it was, and what is no cells -/
structure StW (base : Nat) (w W : World) (v : Value) (l : List UInt8) : Prop where
  own : W.ownsRow base 5 1 v l.length (l.map byteV)
  low : Below base w W
  oth : KeepsOthers w W
  hb : base ≤ w.heap.size
theorem StW.alloc {base : Nat} {w W : World} {v : Value} {l : List UInt8} (h : StW base w W v l) (o : Obj) : StW base w (W.alloc o) v l := ⟨h.own.alloc o, h.low.alloc (Nat.le_trans h.hb h.low.size) o, h.oth.trans (KeepsOthers.alloc W o), h.hb⟩
theorem StW.grown {base : Nat} {w W W' : World} {v v' : Value} {l : List UInt8} (h : StW base w W v l) (m : List UInt8) {k : Nat} (hk : k = m.length) {cs : List Value} (hcs : cs = m.map byteV) (h2 : W'.ownsRow base 5 1 v' (l.length + k) (l.map byteV ++ cs)) (hg : W.grownBy W' v.ownBlock) : StW base w W' v' (l ++ m) := by
  subst hk hcs
  refine ⟨?_, h.low.grown hg (Nat.le_trans h.hb h.low.size) (fun k hk => (h.own.lt k hk).1), h.oth.trans (KeepsOthers.of_grownBy hg fun j o hj ho => ?_), h.hb⟩
  · rw [List.length_append, List.map_append]
    exact h2
  · rcases h.own.2 with ⟨rfl, _⟩ | ⟨g, cap, cur, rfl, _, hgc, _⟩
    · cases hj
    · injection hj with hj
      subst hj
      rw [hgc] at ho
      injection ho with ho
      subst ho
      rfl
theorem byteV_one {l : List UInt8} : ∀ u ∈ l.map byteV, u.oneCell' = true := by
  intro u hu
  obtain ⟨x, _, rfl⟩ := List.mem_map.1 hu
  rfl
set_option maxRecDepth 100000 in
set_option maxHeartbeats 1000000 in
theorem stuffed_any (base : Nat) (v : Value) (l : List UInt8) (n : Nat) (a : Option Addr) (x : List UInt8) (hx : n = x.length) (c : Nat) (W : World) (hown : W.ownsRow base 5 1 v l.length (l.map byteV)) (hbase : base ≤ W.heap.size) (h : BytesAt W a x) (ha : ∀ p, a = some p → p.block < base) (hc : n ≤ c) (hs : l.length + n ≤ 140737488300000) :
    Calls Tryd.prog 14 #[v, .slice a n c] W fun e W' => ∃ v', e = .returned v' ∧ StW base W W' v' (l ++ stuffD x) := by
  obtain ⟨i0, hi, hz0, hz1, hz2⟩ := info_parts info8
  have hcv := Joins.run_convert_bytes_const_at (P := Tryd.prog) W 22 5 #[.int .u8 46] 1 1 W.heap.size rfl Tryd.underlying22 Tryd.underlying5
  have hst : StW base W W v l := ⟨hown, Below.refl _ _, KeepsOthers.refl _, hbase⟩
  have HST := Lib.hid (hst.alloc (.cells #[.int .u8 46] 5 (1, 2)))
  have hbw : Below W.heap.size W (W.alloc (.cells #[.int .u8 46] 5 (1, 2))) := (Below.refl _ _).alloc (Nat.le_refl _) _
  have HB := Lib.hid (RowAt.below h hbw)
  have HP := Lib.hid (prefix_any a c x n hx (some ⟨W.heap.size, 0, none⟩) 1 (W.alloc (.cells #[.int .u8 46] 5 (1, 2))) (RowAt.below h hbw) (lit_bytes W [46] _ (1, 2) rfl (by decide)) hc)
  have HA := Lib.hid ha
  have HX := Lib.hid hx
  have HS := Lib.hid hs
  clear hst hown hbw ha hs hx
  by_cases hd : x.head? = some 46
  · have HD := Lib.hid hd
    rw [decide_eq_true hd] at HP
    clear hd h
    go_enter Tryd.func14, Tryd.ntmps14
    go_wp2_with (first | (go_at_call 20; refine HP.out.mono ?_; rintro e w1 ⟨rfl, rfl⟩; clear HP hcv) | (at_builtin; refine Lib.wpList_append_own_string _ rfl _ _ 22 9 rfl base 5 i0 Tryd.underlying22 Tryd.underlying9 hi hz0 hz1 hz2 _ _ _ rfl HST.out.own ⟨#[46]⟩ rfl ?c3 ?c4 ?c5 ?_))
    case c3 => have := HS.out; unfold maxLen; show _ + 1 ≤ _; omega
    case c4 => have := HS.out; show _ + 1 ≤ _; omega
    case c5 => exact Nat.le_trans HST.out.hb HST.out.low.size
    intro v2 w2 hown2 hg2 _
    have HS2 : Hid (StW base W w2 v2 (l ++ [46])) := HST.out.grown [46] rfl rfl hown2 hg2
    have HB2 : Hid (BytesAt w2 a x) := by
      refine RowAt.mk (RowAt.len HB.out) fun h0 => ?_
      obtain ⟨g, off, e1, e2, e3⟩ := RowAt.row HB.out h0
      refine ⟨g, off, e1, Nat.lt_of_lt_of_le e2 hg2.size, fun j hj => ?_⟩
      rw [← e3 j hj]
      refine World.cell?_of_block (a := ⟨g, off + j, none⟩) (hg2.block g e2 fun e => ?_)
      have h1 := (HST.out.own.lt g e.symm).1
      have h2 := HA.out _ e1
      simp at h2
      omega
    clear hown2 hg2 HB HST
    go_wp2_with (at_builtin; refine wpList_append_rows rfl _ _ 22 rfl base 5 i0 (.int .u8 0) 1 1 Tryd.underlying22 hi hz0 hz1 hz2 rfl (by decide) _ _ _ rfl HS2.out.own a n c (x.map byteV) rfl ?c1 HB2.out byteV_one ?c3 ?c4 ?c5 ?_)
    case c1 => rw [List.length_map, HX.out, Nat.mul_one]
    case c3 => have := HS.out; unfold maxLen; rw [List.length_append]; simp; omega
    case c4 => have := HS.out; rw [List.length_append]; simp; omega
    case c5 => exact Nat.le_trans HS2.out.hb HS2.out.low.size
    intro v3 w3 hown3 hg3
    have HS3 : Hid (StW base W w3 v3 (l ++ stuffD x)) := by
      have := HS2.out.grown x HX.out rfl (by simpa using hown3) hg3
      have e : stuffD x = 46 :: x := by unfold stuffD; rw [if_pos HD.out]
      rw [e]
      rw [List.append_assoc] at this
      exact this
    clear hown3 hg3 HS2 HB2
    go_wp2
    go_ret
    exact ⟨v3, rfl, HS3.out⟩
  · have HD := Lib.hid hd
    rw [decide_eq_false hd] at HP
    clear hd h
    go_enter Tryd.func14, Tryd.ntmps14
    go_wp2_with (first | (go_at_call 20; refine HP.out.mono ?_; rintro e w1 ⟨rfl, rfl⟩; clear HP hcv) | (at_builtin; refine wpList_append_rows rfl _ _ 22 rfl base 5 i0 (.int .u8 0) 1 1 Tryd.underlying22 hi hz0 hz1 hz2 rfl (by decide) _ _ _ rfl HST.out.own a n c (x.map byteV) rfl ?c1 HB.out byteV_one ?c3 ?c4 ?c5 ?_))
    case c1 => rw [List.length_map, HX.out, Nat.mul_one]
    case c3 => have := HS.out; unfold maxLen; omega
    case c4 => have := HS.out; omega
    case c5 => exact Nat.le_trans HST.out.hb HST.out.low.size
    intro v3 w3 hown3 hg3
    have HS3 : Hid (StW base W w3 v3 (l ++ stuffD x)) := by
      have := HST.out.grown x HX.out rfl hown3 hg3
      unfold stuffD
      rw [if_neg HD.out]
      exact this
    clear hown3 hg3 HST HB
    go_wp2
    go_ret
    exact ⟨v3, rfl, HS3.out⟩
/-- the piece of a line that is it, unstuffed: where it lies -/
structure UnAt (a : Option Addr) (c : Nat) (x : List UInt8) (a' : Option Addr) (c' : Nat) : Prop where
  cap : (unstD x).length ≤ c'
  at_ : ∀ W, BytesAt W a x → BytesAt W a' (unstD x)
  blk : ∀ p, a' = some p → ∃ q, a = some q ∧ q.block = p.block
theorem un_no {a : Option Addr} {c : Nat} {x : List UInt8} (hc : x.length ≤ c) (hd : x.head? ≠ some 46) : UnAt a c x a c := by
  have e : unstD x = x := by unfold unstD; rw [if_neg hd]
  exact ⟨by rw [e]; exact hc, fun W h => by rw [e]; exact h, fun p hp => ⟨p, hp, rfl⟩⟩
theorem un_yes {a : Option Addr} {c : Nat} {r : List UInt8} (hc : r.length + 1 ≤ c) : UnAt a c (46 :: r) (behindA a c 1) (c - 1) := by
  have e : unstD (46 :: r) = r := by simp [unstD]
  refine ⟨by rw [e]; omega, fun W h => ?_, fun p hp => ?_⟩
  · rw [e]
    exact behind_bytes h c 1 (by simpa using hc)
  · unfold behindA at hp
    split at hp
    · exact ⟨p, hp, rfl⟩
    · cases a with
      | none => cases hp
      | some q =>
        refine ⟨q, rfl, ?_⟩
        simp only [Option.map_some, Option.some.injEq] at hp
        rw [← hp]
        unfold Addr.add
        split <;> rfl
set_option maxRecDepth 100000 in
set_option maxHeartbeats 1000000 in
theorem unstuffed_any (a : Option Addr) (x : List UInt8) (n : Nat) (hx : n = x.length) (c : Nat) (W : World) (h : BytesAt W a x) (hc : n ≤ c) :
    Calls Tryd.prog 13 #[.slice a n c] W fun e W' => ∃ a' c', e = .returned (.tuple #[.slice a' (unstD x).length c', .bool (decide (x = [46]))]) ∧ UnAt a c x a' c' ∧ W' = W.alloc (.cells #[.int .u8 46] 5 (1, 2)) := by
  have hcv := Joins.run_convert_bytes_const_at (P := Tryd.prog) W 22 5 #[.int .u8 46] 1 1 W.heap.size rfl Tryd.underlying22 Tryd.underlying5
  have hbw : Below W.heap.size W (W.alloc (.cells #[.int .u8 46] 5 (1, 2))) := (Below.refl _ _).alloc (Nat.le_refl _) _
  have hlit := lit_bytes W [46] _ (1, 2) rfl (by decide)
  by_cases hd : x.head? = some 46
  · obtain ⟨r, rfl⟩ : ∃ r, x = 46 :: r := by
      cases x with
      | nil => cases hd
      | cons y r => injection hd with hd; subst hd; exact ⟨r, rfl⟩
    have HP := Lib.hid (cutprefix_yes a c r n (by simpa using hx) (some ⟨W.heap.size, 0, none⟩) 1 _ (RowAt.below h hbw) hlit hc)
    have HU : Hid (UnAt a c (46 :: r) (behindA a c 1) (c - 1)) := un_yes (by simp at hx; omega)
    have e : unstD (46 :: r) = r := by simp [unstD]
    have HE : Hid (unstD (46 :: r) = r) := e
    obtain ⟨m, hm⟩ : ∃ m, m = r.length := ⟨_, rfl⟩
    have hb : decide ((46 :: r) = [46]) = ((m : Int) == 0) := by
      rw [hm]
      cases r <;> simp; omega
    rw [hb, e, ← hm]
    rw [← hm] at HP
    generalize behindA a c 1 = a1 at *
    clear hb e hm hd h hbw hlit hx
    go_enter Tryd.func13, Tryd.ntmps13
    go_wp2_with (go_at_call 19; refine HP.out.mono ?_; rintro e w1 ⟨rfl, rfl⟩; clear HP hcv)
    go_ret2
    exact ⟨a1, c - 1, rfl, HU.out, rfl⟩
  · have HP := Lib.hid (cutprefix_no a c x n hx (some ⟨W.heap.size, 0, none⟩) 1 _ (RowAt.below h hbw) hlit hc hd)
    have HU : Hid (UnAt a c x a c) := un_no (by omega) hd
    have e : unstD x = x := by unfold unstD; rw [if_neg hd]
    have hb : decide (x = [46]) = false := decide_eq_false fun h => hd (by rw [h]; rfl)
    rw [hb, e, ← hx]
    clear hb e hd h hbw hlit hx
    go_enter Tryd.func13, Tryd.ntmps13
    go_wp2_with (go_at_call 19; refine HP.out.mono ?_; rintro e w1 ⟨rfl, rfl⟩; clear HP hcv)
    go_ret2
    exact ⟨a, c, rfl, HU.out, rfl⟩
end Go.Proofs.YtlpplmcploddaaaDoor
