/-
  The contract of frankinglaw10.TableBack where the table is right, and the bytes are one. Conditions: the table and the bytes lie in memory, within Go's own bounds.
-/
import Derived.Test.YtkgfjapflpjdbaaTkA
namespace Go.Proofs.Ytkgfjapflpjdbaa
open Go.RowKit

attribute [local go_sem ↓] loadOp_C loadOp_T allocOp_T storeOp_T buildOp_T
set_option maxRecDepth 100000 in
set_option maxHeartbeats 4000000 in
theorem tableBack_rr (t : Tab) (p : Lie) (X : Array Value) (hX : (tabCells t p).toArray = X) (ab : Option Addr) (bl : List UInt8) (cb n : Nat) (hn : bl.length = n) (hcb : n ≤ cb) (hcm : cb ≤ maxLen) (w : World) (h : TabAt w t p) (hb : BytesAt w ab bl) (hf : fewB t = true) (hl : n ≤ 6000) (hr : tabRightB t = true) (hs : readB bl = true) :
    Calls Try.prog 4 #[.agg X, .slice ab n cb] w fun e w' => e = .returned (.bool true) ∧ Below w.heap.size w w' := by
  obtain ⟨Z, hZ⟩ : ∃ Z, (tabCells zeroTab zeroLie).toArray = Z := ⟨_, rfl⟩
  have hzs : Z.size = 261 := by rw [← hZ, List.size_toArray, tab_len zeroTab zeroLie List.length_replicate]
  have HRUN0 := alloc_run
  have HBLD := build_run
  rw [hZ] at HRUN0 HBLD
  have HZS := Lib.hid hzs
  have h0 := BkW.start h hb
  rw [hX] at h0
  have hld := h0.tab.read.all
  rw [hX] at hld
  have HW0 := Lib.hid h0
  have HFW : Hid (∀ W, BkW w W t p ab bl → Calls Try.prog 7 #[.agg X] W fun e w' => e = .returned (.bool true) ∧ Below W.heap.size W w') := fun W hW => by
    have := few_any t p X hX W hW.tab.at_
    rw [hf] at this
    exact this
  have HLD : Hid (∀ W, BkW w W t p ab bl → (LoadOp 30 (.pointer (some ⟨w.heap.size, 0, none⟩))).run Try.prog W = .ok (.agg X) W) := fun W hW => by
    have := hW.tab.read.all
    rw [hX] at this
    exact this
  have HRT : Hid (∀ W, BkW w W t p ab bl → Calls Try.prog 9 #[.agg X] W fun e w' => e = .returned (.bool true) ∧ Below W.heap.size W w') := fun W hW => by
    have := right_agg t p X hX W hW.tab.at_
    rw [hr] at this
    exact this
  have HAW := Lib.hid awake_any
  obtain ⟨U, hU⟩ : ∃ U, readT bl = U := ⟨_, rfl⟩
  obtain ⟨P, hP⟩ : ∃ P, packP t = P := ⟨_, rfl⟩
  obtain ⟨m, hm⟩ : ∃ m, P.length = m := ⟨_, rfl⟩
  have HPK : Hid (∀ W, BkW w W t p ab bl → Calls Try.prog 13 #[.agg X] W fun e w' => ∃ g cap, e = .returned (.tuple #[.slice (some ⟨g, 0, none⟩) m cap, .int .i64 0]) ∧ BytesAt w' (some ⟨g, 0, none⟩) P ∧ Hid (m ≤ cap) ∧ Hid (cap ≤ maxLen) ∧ Below W.heap.size W w') := fun W hW =>
    (pack_yes t p X hX W hW.tab.at_ hr).mono fun e w' ⟨v, he, ho⟩ => by
      rw [hP] at ho
      obtain ⟨g, cap, hv, h1, h2, h3⟩ := own_bytes ho.own (by rw [← hP]; exact packP_pos t)
      rw [hm] at hv h2
      exact ⟨g, cap, by rw [he, hv], h1, h2, h3, ho.low⟩
  have HRP : Hid (∀ W g cap, BytesAt W (some ⟨g, 0, none⟩) P → m ≤ cap → cap ≤ maxLen → Calls Try.prog 15 #[.slice (some ⟨g, 0, none⟩) m cap] W fun e w' => ∃ lie, e = .returned (.tuple #[.agg (tabCells t lie).toArray, .int .i64 0]) ∧ Below W.heap.size W w' ∧ TabAt w' t lie) := fun W g cap h1 h2 h3 => by
    obtain ⟨e1, e2⟩ := readB_pack t hr h.of
    rw [hP] at e1 e2
    have := read_any (some ⟨g, 0, none⟩) P cap W h1 (by rw [hm]; exact h2) h3
    unfold readZ at this
    rw [e2, e1, hm] at this
    exact this
  have HSM : Hid (∀ W B lie, BkW w W t p ab bl → TabIn W B t lie → Calls Try.prog 17 #[.agg X, .agg (tabCells t lie).toArray] W fun e w' => e = .returned (.bool true) ∧ Below W.heap.size W w') := fun W B lie hW hI => by
    have := same_any t t p lie (right_wf hr) (right_wf hr) true (by simp) W hW.tab.at_ hI.at_
    rw [hX] at this
    exact this
  have HRB : Hid (∀ W, BkW w W t p ab bl → Calls Try.prog 15 #[.slice ab n cb] W fun e w' => ∃ lie, e = .returned (.tuple #[.agg (tabCells U lie).toArray, .int .i64 0]) ∧ Below W.heap.size W w' ∧ TabAt w' U lie) := fun W hW => by
    have := read_any ab bl cb W hW.b (by rw [hn]; exact hcb) hcm
    unfold readZ at this
    rw [hU, hs, hn] at this
    exact this
  obtain ⟨u1, u2, u3⟩ := pack_read bl hs
  rw [hU] at u1 u2 u3
  have HPU : Hid (∀ W B lie, TabIn W B U lie → Calls Try.prog 13 #[.agg (tabCells U lie).toArray] W fun e w' => ∃ g cap, e = .returned (.tuple #[.slice (some ⟨g, 0, none⟩) n cap, .int .i64 0]) ∧ BytesAt w' (some ⟨g, 0, none⟩) bl ∧ Below W.heap.size W w') := fun W B lie hI =>
    (pack_yes U lie _ rfl W hI.at_ u2).mono fun e w' ⟨v, he, ho⟩ => by
      have hpos := packP_pos U
      rw [u1] at ho hpos
      obtain ⟨g, cap, hv, h1, h2, h3⟩ := own_bytes ho.own hpos
      rw [hn] at hv
      exact ⟨g, cap, by rw [he, hv], h1, ho.low⟩
  have HRU : Hid (∀ W B lie, TabIn W B U lie → Calls Try.prog 9 #[.agg (tabCells U lie).toArray] W fun e w' => e = .returned (.bool true) ∧ Below W.heap.size W w') := fun W B lie hI => by
    have := right_agg U lie _ rfl W hI.at_
    rw [u2] at this
    exact this
  obtain ⟨S, hS⟩ : ∃ S, bs bl = S := ⟨_, rfl⟩
  have HCV : Hid (∀ W a c, BytesAt W a bl → (convert 31 9 (.slice a n c)).run Try.prog W = .ok (.string S) W) := fun W a c h => by
    have := conv_any W a bl c h
    rw [hn, hS] at this
    exact this
  clear u1 u2 u3 hS
  have hl2 : ¬ (6000 : Int) < (n : Int) := by omega
  clear hU h hb hX h0 hn hl hf hr hs hzs hZ hcb hcm hP hm
  have TOK1 : Hid True := trivial
  have TOK2 : Hid True := trivial
  have TOK3 : Hid True := trivial
  have TOK4 : Hid True := trivial
  go_enter Try.func4, Try.ntmps4
  go_wp2_with (first
    | (go_at_call 7; refine (HFW.out _ HW0.out).mono ?_; rintro e w1 ⟨rfl, hb1⟩; have HW1 := Lib.hid (HW0.out.later hb1); have ld1 := HLD.out _ HW1.out; clear hb1)
    | (clear TOK1; go_at_call 13; refine (HPK.out _ HW1.out).mono ?_; rintro e w2 ⟨g2, cap2, rfl, hp2, HC2, HD2, hb2⟩; have HP2 := Lib.hid hp2; have HW2 := Lib.hid (HW1.out.later hb2); have ld2 := HLD.out _ HW2.out; clear hb2 hp2)
    | (clear TOK2; go_at_call 9; refine (HRT.out _ HW2.out).mono ?_; rintro e w3 ⟨rfl, hb3⟩; have HP3 : Hid (BytesAt w3 (some ⟨g2, 0, none⟩) P) := RowAt.below HP2.out hb3; have HW3 := Lib.hid (HW2.out.later hb3); clear hb3)
    | (clear TOK3; go_at_call 15; refine (HRP.out _ _ _ HP3.out HC2.out HD2.out).mono ?_; rintro e w4 ⟨lie4, rfl, hb4, ht4⟩; obtain ⟨e4, hin4, hbe4⟩ := tab_made w4 t lie4 Z HZS.out ht4; have HI4 := Lib.hid hin4; have HW4 := Lib.hid (HW3.out.later (hb4.trans (hbe4.mono hb4.size))); have ld4 := HLD.out _ HW4.out; have ld4b := HI4.out.read.all; clear hb4 hbe4 hin4 ht4)
    | (clear TOK4; go_at_call 17; refine (HSM.out _ _ _ HW4.out HI4.out).mono ?_; rintro e w5 ⟨rfl, hb5⟩; have HW5 := Lib.hid (HW4.out.later hb5); clear hb5)
    | (go_at_call 15; refine (HRB.out _ HW5.out).mono ?_; rintro e w6 ⟨lie6, rfl, hb6, ht6⟩; obtain ⟨e6, hin6, hbe6⟩ := tab_made w6 U lie6 Z HZS.out ht6; have HI6 := Lib.hid hin6; have HW6 := Lib.hid (HW5.out.later (hb6.trans (hbe6.mono hb6.size))); have ld6 := HI6.out.read.all; clear hb6 hbe6 hin6 ht6)
    | (go_at_call 13; refine (HPU.out _ _ _ HI6.out).mono ?_; rintro e w7 ⟨g7, cap7, rfl, hp7, hb7⟩; have HP7 := Lib.hid hp7; have HI7 := Lib.hid (HI6.out.below hb7); have HW7 := Lib.hid (HW6.out.later hb7); have ld7 := HI7.out.read.all; clear hb7 hp7)
    | (go_at_call 9; refine (HRU.out _ _ _ HI7.out).mono ?_; rintro e w8 ⟨rfl, hb8⟩; have HW8 := Lib.hid (HW7.out.later hb8); have cv1 := HCV.out w8 (some ⟨g7, 0, none⟩) cap7 (RowAt.below HP7.out hb8); have cv2 := HCV.out w8 ab cb HW8.out.b; clear hb8)
    | (go_at_call 8; refine (HAW.out _).mono ?_; rintro e w9 ⟨rfl, hb9⟩; have HW9 := Lib.hid (HW8.out.later hb9); clear hb9))
  go_ret
  exact ⟨rfl, HW9.out.low⟩
end Go.Proofs.Ytkgfjapflpjdbaa
