/-
  The contract of frankinglaw07.runs where the tags are those. Conditions: a right machine in memory, its words are words; the library's table.
-/
import Derived.Test.YtdckjjkaoecgaaaDoorNwS
import Derived.Test.YtdckjjkaoecgaaaDoorNaI
import Derived.Test.YtdckjjkaoecgaaaDoorNaP
import Derived.Deep.DeepCutAuto
namespace Go.Proofs.YtdckjjkaoecgaaaDoor
open Go.RowKit Go.Shelf

theorem ints_blk {W : World} {g : Nat} {ts : List Int} (h : Blk W g 3 (ts.map tV).toArray) (hm : ts.length ≤ 1000001) : IntsAt W (some ⟨g, 0, none⟩) ts := by
  refine ⟨by rw [List.length_map]; unfold maxLen; omega, fun _ => ⟨g, 0, rfl, h.lt, fun j hj => ?_⟩⟩
  rw [h.cell, Nat.zero_add, List.getElem?_toArray, List.getElem?_map, List.getElem?_eq_getElem (by simpa using hj), List.getElem_map]
  rfl
set_option maxRecDepth 100000 in
set_option maxHeartbeats 4000000 in
theorem runs_yes {p : Nat} {sa : Option Addr} {sc : Nat} {st : List NS} {sn : Nat} (hsn : st.length = sn) (w : World) (hns : NsIn w w.heap.size sa st) (hfit : NsFit st) (hr : nRightB (p : Int) st = true) (s : ByteArray) (hs : s.size ≤ 1000000) (hT : TzAt w) (htb : 0 < w.heap.size) (us : List Int) (q n : Nat) (hq : us.length = q) (aw : Option Addr) (cw : Nat) (hw : IntsAt w aw us) (ht : tagsB st p n s.data.toList us = true) :
    Calls Tryd.prog 28 #[.agg #[.int .i64 (p : Int), .slice sa sn sc], .string s, .slice aw q cw] w fun e w' => e = .returned (.bool true) ∧ Below w.heap.size w w' := by
  have HL1 : Hid (Below w.heap.size w (w.alloc (.cells #[.int .i64 (p : Int), .slice sa sn sc] 25))) := (Below.refl _ _).alloc (Nat.le_refl _) _
  have hls : s.data.toList.length = s.size := by rw [Array.length_toList]; rfl
  have HRUN := Lib.hid (run_yes (start := (p : Int)) (sc := sc) hsn (w.alloc (.cells #[.int .i64 (p : Int), .slice sa sn sc] 25)) ((hns.below HL1.out).mono HL1.out.size) hfit hr s hs (hT.below htb HL1.out) (Nat.lt_of_lt_of_le htb HL1.out.size))
  have HFIN : Hid (∀ (w5 : World) (g : Nat) (ts : List Int), ts.length = s.size + 1 → Blk w5 g 3 (ts.map tV).toArray → Below (w.alloc (.cells #[.int .i64 (p : Int), .slice sa sn sc] 25)).heap.size (w.alloc (.cells #[.int .i64 (p : Int), .slice sa sn sc] 25)) w5 → (∀ i, i ≤ s.size → TagOf st (StandS st (Reach st (p : Int).toNat) (s.data.toList.take i)) (ts.getD i 0)) →
      Calls Tryd.prog 19 #[.slice (some ⟨g, 0, none⟩) (s.size + 1) (s.size + 1), .slice aw q cw] w5 fun e w' => e = .returned (.bool true) ∧ Below w5.heap.size w5 w') := fun w5 g ts h1 h2 h3 h4 => by
    have he : ts = us := tags_of ht (right_facts hr).2.2.2.2 (by rw [h1, hls]) (fun i hi => by rw [hls] at hi; exact h4 i hi)
    subst he
    have h5 := ints_same (some ⟨g, 0, none⟩) aw ts ts (s.size + 1) cw w5 true (by simp) (ints_blk h2 (by omega)) (RowAt.below hw (HL1.out.trans (h3.mono HL1.out.size)))
    rw [hq] at h5
    rw [show q = s.size + 1 by omega] at h5 ⊢
    exact h5
  clear hns hfit hr hT htb hq hw ht hls hsn
  go_enter Tryd.func28, Tryd.ntmps28
  go_wp2_with (first
    | (go_at_call 15; refine HRUN.out.mono ?_; rintro e w5 ⟨g, ts, rfl, h1, h2, h3, h4, h5⟩; have HI := Lib.hid (HFIN.out w5 g ts h1 h2 h4 h5); have HL5 := Lib.hid (HL1.out.trans (h4.mono HL1.out.size)); clear h1 h2 h3 h4 h5)
    | (go_at_call 19; refine HI.out.mono ?_; rintro e w6 ⟨rfl, hb6⟩; have HL6 := Lib.hid (HL5.out.trans (hb6.mono HL5.out.size)); clear hb6))
  go_ret
  exact ⟨rfl, HL6.out⟩
set_option maxRecDepth 100000 in
set_option maxHeartbeats 1000000 in
theorem set_a (w : World) : Calls Tryd.prog 27 #[.int .u8 97] w fun e w' => e = .returned (.agg #[.int .u8 1, .int .u64 0, .int .u64 8589934592, .int .u64 0, .int .u64 0, .slice none 0 0]) ∧ Below w.heap.size w w' := by
  go_enter Tryd.func27, Tryd.ntmps27
  go_wp2
  refine bodyPost_ret (results_cell1 rfl _ _ w.heap.size _ _ _ _ rfl ((Blk.new w 46 _).alloc _) Tryd.underlying46 rfl (by kernel_rfl)) rfl ?_
  exact ⟨rfl, ((Below.refl _ _).alloc (Nat.le_refl _) _).alloc (by simp) _⟩
set_option maxRecDepth 100000 in
set_option maxHeartbeats 1000000 in
theorem set_b (w : World) : Calls Tryd.prog 27 #[.int .u8 98] w fun e w' => e = .returned (.agg #[.int .u8 1, .int .u64 0, .int .u64 17179869184, .int .u64 0, .int .u64 0, .slice none 0 0]) ∧ Below w.heap.size w w' := by
  go_enter Tryd.func27, Tryd.ntmps27
  go_wp2
  refine bodyPost_ret (results_cell1 rfl _ _ w.heap.size _ _ _ _ rfl ((Blk.new w 46 _).alloc _) Tryd.underlying46 rfl (by kernel_rfl)) rfl ?_
  exact ⟨rfl, ((Below.refl _ _).alloc (Nat.le_refl _) _).alloc (by simp) _⟩
end Go.Proofs.YtdckjjkaoecgaaaDoor
