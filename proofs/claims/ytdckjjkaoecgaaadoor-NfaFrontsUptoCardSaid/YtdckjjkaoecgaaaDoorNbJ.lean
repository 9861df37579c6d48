/-
  The contracts of (*nfa.part).nextKid and (*nfa.maker).join. Conditions: the part lies in a row of parts; at most a million states.
-/
import Derived.Test.YtdckjjkaoecgaaaDoorNbO
namespace Go.Proofs.YtdckjjkaoecgaaaDoor
open Go.RowKit

set_option maxRecDepth 100000 in
set_option maxHeartbeats 2000000 in
theorem nextKid_any (g o b off n c : Nat) (x : Ry) (w : World) (hg : g < w.heap.size) (hb : b < w.heap.size) (hn : n < 1000000)
    (h1 : w.cell? ⟨g, o + 1, none⟩ = some (.slice (some ⟨b, off, none⟩) (n + 1) c)) (hf : w.frozen? ⟨g, o + 1, none⟩ = false) (hc : n + 1 ≤ c)
    (hx : ∀ j u, (ryCells x)[j]? = some u → w.cell? ⟨b, off + n * 6 + j, none⟩ = some u) :
    Calls Tryd.prog 64 #[.pointer (some ⟨g, o, none⟩)] w fun e w' => e = .returned (.agg (ryCells x).toArray) ∧ Below w.heap.size (w.setCell ⟨g, o + 1, none⟩ (.slice (some ⟨b, off, none⟩) n c)) w' := by
  have a0 := hx 0 _ rfl
  have a1 := hx 1 _ rfl
  have a2 := hx 2 _ rfl
  have a3 := hx 3 _ rfl
  have a4 := hx 4 _ rfl
  have a5 := hx 5 _ rfl
  rw [Nat.add_zero] at a0
  have hn1 : ((n + 1 : Nat) : Int) - 1 = (n : Int) := by omega
  have hi1 : (n : Int) < ((n + 1 : Nat) : Int) := by omega
  have hi2 : (n : Int) ≤ (c : Int) := by omega
  have hi0 : (0 : Int) ≤ n := by omega
  unfold ryCells
  obtain ⟨xl, hxl⟩ : ∃ xl, xl = x.kids.length := ⟨_, rfl⟩
  rw [← hxl] at a5 ⊢
  clear hx hxl
  go_enter Tryd.func64, Tryd.ntmps64
  have HF : Hid (Blk (((w.setCell ⟨g, o + 1, none⟩ (.slice (some ⟨b, off, none⟩) n c)).alloc (.cells #[.int .u8 (x.kind : Int), .int .u64 (x.s0 : Int), .int .u64 (x.s1 : Int), .int .u64 (x.s2 : Int), .int .u64 (x.s3 : Int), .slice x.a xl x.cap] 46)).alloc (.cells #[.int .u8 (x.kind : Int), .int .u64 (x.s0 : Int), .int .u64 (x.s1 : Int), .int .u64 (x.s2 : Int), .int .u64 (x.s3 : Int), .slice x.a xl x.cap] 46)) w.heap.size 46 #[.int .u8 (x.kind : Int), .int .u64 (x.s0 : Int), .int .u64 (x.s1 : Int), .int .u64 (x.s2 : Int), .int .u64 (x.s3 : Int), .slice x.a xl x.cap]) := (Blk.new_at _ _ _ _ (by simp)).alloc _
  have HL : Hid (Below w.heap.size (w.setCell ⟨g, o + 1, none⟩ (.slice (some ⟨b, off, none⟩) n c)) (((w.setCell ⟨g, o + 1, none⟩ (.slice (some ⟨b, off, none⟩) n c)).alloc (.cells #[.int .u8 (x.kind : Int), .int .u64 (x.s0 : Int), .int .u64 (x.s1 : Int), .int .u64 (x.s2 : Int), .int .u64 (x.s3 : Int), .slice x.a xl x.cap] 46)).alloc (.cells #[.int .u8 (x.kind : Int), .int .u64 (x.s0 : Int), .int .u64 (x.s1 : Int), .int .u64 (x.s2 : Int), .int .u64 (x.s3 : Int), .slice x.a xl x.cap] 46))) := ((Below.refl _ _).alloc (by simp) _).alloc (by simp) _
  go_wp2
  refine bodyPost_ret (results_cell1 rfl _ _ w.heap.size _ _ _ _ rfl HF.out Tryd.underlying46 rfl (by kernel_rfl)) rfl ?_
  exact ⟨rfl, HL.out⟩
/-! ### a state is turned toward another one -/
def aim (x : Int) (s : NS) : NS := { s with a := x }
theorem aim_len (l : List NS) (k : Nat) (x : Int) : (l.modify k (aim x)).length = l.length := List.length_modify _ _ _
theorem nsFlat_aim : ∀ (l : List NS) (k : Nat) (x : Int), k < l.length → (l.modify k (aim x)).flatMap nsCells = (l.flatMap nsCells).set (k * 8 + 5) (.int .i64 x)
  | [], k, x, h => by simp at h
  | s :: r, 0, x, _ => by
    rw [List.modify_zero_cons, List.flatMap_cons, List.flatMap_cons, List.set_append_left _ _ (by show 0 * 8 + 5 < 8; omega)]
    rfl
  | s :: r, k + 1, x, h => by
    rw [List.modify_succ_cons, List.flatMap_cons, List.flatMap_cons, List.set_append_right _ _ (by show 8 ≤ _; omega), nsFlat_aim r k x (by simp at h; omega)]
    rw [show (k + 1) * 8 + 5 - (nsCells s).length = k * 8 + 5 from by show (k + 1) * 8 + 5 - 8 = _; omega]
theorem join_4 (p : Pq) (kid : Int) (st : List NS) (h : p.kind = 4) : joinP p kid st = (p, st.modify p.begin.toNat (aim kid)) := by unfold joinP; rw [if_neg (by omega), if_neg (by omega), if_pos h]; rfl
theorem join_2 (p : Pq) (kid : Int) (st : List NS) (h : p.kind = 2) : joinP p kid st = (⟨2, kid, kid⟩, st) := by unfold joinP; rw [if_pos h, h]
theorem join_3a (p : Pq) (kid : Int) (st : List NS) (h : p.kind = 3) (hb : p.begin = -1) : joinP p kid st = (⟨3, p.tw, kid⟩, st) := by unfold joinP; rw [if_neg (by omega), if_pos h, if_pos hb, h]
theorem join_3b (p : Pq) (kid : Int) (st : List NS) (h : p.kind = 3) (hb : ¬ p.begin = -1) : joinP p kid st = (⟨3, p.tw, st.length⟩, st ++ [splitN kid p.begin]) := by unfold joinP; rw [if_neg (by omega), if_pos h, if_neg hb, h]
theorem join_n (p : Pq) (kid : Int) (st : List NS) (h2 : ¬ p.kind = 2) (h3 : ¬ p.kind = 3) (h4 : ¬ p.kind = 4) : joinP p kid st = (p, st) := by unfold joinP; rw [if_neg h2, if_neg h3, if_neg h4]
/-- what join leaves: the part's own block, and the maker -/
structure JnOut (B : Nat) (w w' : World) (M g : Nat) (cur : Array Value) (st : List NS) (most : Int) : Prop where
  maker : ∃ v, Mk w' M B v st most
  low : Below B w w'
  keep : ∀ g' t cs, Blk w g' t cs → t ≠ 65 → t ≠ 56 → g' ≠ g → Blk w' g' t cs
  blk : Blk w' g 104 cur
theorem JnOut.start {B M g : Nat} {w : World} {v : Value} {cur : Array Value} {st : List NS} {most : Int} (h : Mk w M B v st most) (hb : Blk w g 104 cur) : JnOut B w w M g cur st most := ⟨⟨v, h⟩, Below.refl _ _, fun _ _ _ h _ _ _ => h, hb⟩
theorem JnOut.set {B M g : Nat} {w w' : World} {cur : Array Value} {st : List NS} {most : Int} (h : JnOut B w w' M g cur st most) (hB : B ≤ g) (i : Nat) (u : Value) : JnOut B w (w'.setCell ⟨g, i, none⟩ u) M g (cur.setIfInBounds i u) st most := by
  obtain ⟨v, hv⟩ := h.maker
  refine ⟨⟨v, hv.blk.other (fun e => ?_) u, own_set hv.own h.blk (by decide) i u, hv.low⟩, h.low.setCell (p := ⟨g, i, none⟩) hB u, fun g' t cs hb k1 k2 k3 => (h.keep g' t cs hb k1 k2 k3).other (fun e => k3 e) u, h.blk.set_ i u⟩
  have e : M = g := e
  subst e
  have := (blk_same h.blk hv.blk).1
  revert this
  decide
theorem JnOut.out {B M g : Nat} {w w' w2 : World} {cur : Array Value} {st st' : List NS} {most : Int} (h : JnOut B w w' M g cur st most) (k : MkOut B w' w2 M st' most) : JnOut B w w2 M g cur st' most :=
  ⟨k.maker, h.low.trans k.low, fun g' t cs hb k1 k2 k3 => k.keep g' t cs (h.keep g' t cs hb k1 k2 k3) k1 k2, k.keep _ _ _ h.blk (by decide) (by decide)⟩
theorem JnOut.later {B M g : Nat} {w w' w2 : World} {cur : Array Value} {st : List NS} {most : Int} (h : JnOut B w w' M g cur st most) (hb : Below w'.heap.size w' w2) : JnOut B w w2 M g cur st most := by
  obtain ⟨v, hv⟩ := h.maker
  exact h.out ((MkOut.refl hv).later hb)
/-- a state's own field is written -/
theorem Mk.aim {w : World} {M B gs c : Nat} {st : List NS} {most : Int} (h : Mk w M B (.slice (some ⟨gs, 0, none⟩) st.length c) st most) (k : Nat) (hk : k < st.length) (x : Int) :
    Mk (w.setCell ⟨gs, k * 8 + 5, none⟩ (.int .i64 x)) M B (.slice (some ⟨gs, 0, none⟩) st.length c) (st.modify k (aim x)) most ∧ B ≤ gs ∧ (∃ cur, Blk w gs 56 cur) := by
  rcases h.own.2 with ⟨e, _⟩ | ⟨g, cap, cur, e, hg, hb, h3, h4, h5, h6⟩
  · cases e
  · injection e with e1 e2 e3
    injection e1 with e1
    injection e1 with e1
    subst e1
    subst e3
    refine ⟨⟨h.blk.other (fun e => ?_) _, ⟨by rw [nsFlat_len, aim_len], .inr ⟨gs, c, cur.setIfInBounds (k * 8 + 5) (.int .i64 x), by rw [aim_len], hg, (show Blk w gs _ cur from hb).set_ _ _, by rw [aim_len]; exact h3, h4, by rw [Array.size_setIfInBounds]; exact h5, ?_⟩⟩, h.low⟩, hg, cur, hb⟩
    · have e : M = gs := e
      subst e
      have := (blk_same h.blk (show Blk w M _ cur from hb)).1
      revert this
      decide
    · rw [aim_len, nsFlat_aim st k x hk, ← h6, Array.toList_setIfInBounds, List.take_set]
theorem JnOut.aim {B M g gs c k : Nat} {w w' : World} {cur : Array Value} {st : List NS} {most : Int} (h : JnOut B w w' M g cur st most) (hm : Mk w' M B (.slice (some ⟨gs, 0, none⟩) st.length c) st most) (hk : k < st.length) (x : Int) : JnOut B w (w'.setCell ⟨gs, k * 8 + 5, none⟩ (.int .i64 x)) M g cur (st.modify k (aim x)) most := by
  obtain ⟨h1, h2, cs, h3⟩ := hm.aim k hk x
  refine ⟨⟨_, h1⟩, h.low.setCell (p := ⟨gs, k * 8 + 5, none⟩) h2 _, fun g' t cs' hb k1 k2 k3 => (h.keep g' t cs' hb k1 k2 k3).other (fun e => ?_) _, h.blk.other (fun e => ?_) _⟩
  · have e : g' = gs := e
    subst e
    exact k2 (blk_same (h.keep _ t cs' hb k1 k2 k3) h3).1
  · have e : g = gs := e
    subst e
    have := (blk_same h.blk h3).1
    revert this
    decide
end Go.Proofs.YtdckjjkaoecgaaaDoor
