/-
  The contract of nfa.Right. Conditions: the machine's states lie in memory.
-/
import Derived.Test.YtdckjjkaoecgaaaDoorNwC
import Derived.Test.YtdckjjkaoecgaaaDoorNrD
import Derived.Deep.DeepCutAuto
namespace Go.Proofs.YtdckjjkaoecgaaaDoor
open Go.RowKit Go.Shelf

/-- is a machine right? -/
def nRightB (start : Int) (st : List NS) : Bool := decide (st.length ≤ 20000) && (belowP start st.length && st.all (fun s => rightN s st.length))
theorem results_bool1 (b : Bool) : Ending.returned (.bool b) = Ending.returned (.bool b) := rfl
set_option maxRecDepth 100000 in
set_option maxHeartbeats 8000000 in
theorem nRight_any (start : Int) (sa : Option Addr) (sc : Nat) (st : List NS) (sn B : Nat) (hsn : st.length = sn) (hsl : sn ≤ 281474976710656) (w : World) (hB : B ≤ w.heap.size) (hns : NsIn w B sa st) :
    Calls Tryd.prog 17 #[.agg #[.int .i64 start, .slice sa sn sc]] w fun e w' => e = .returned (.bool (nRightB start st)) ∧ Below w.heap.size w w' := by
  have HNS := Lib.hid hns
  have HSN := Lib.hid hsn
  have HB := Lib.hid hB
  obtain ⟨W1, hW1⟩ : ∃ W1, W1 = w.alloc (.cells #[.int .i64 start, .slice sa sn sc] 25) := ⟨_, rfl⟩
  have HL1 : Hid (Below w.heap.size w W1) := by rw [hW1]; exact (Below.refl _ _).alloc (Nat.le_refl _) _
  have HB1 : Hid (Blk W1 w.heap.size 25 #[.int .i64 start, .slice sa sn sc]) := by rw [hW1]; exact Blk.new _ _ _
  have HBE := Lib.hid (fun W => below_any2 start sn W)
  obtain ⟨R, hR⟩ : ∃ R, R = nRightB start st := ⟨_, rfl⟩
  have HR : Hid (R = (decide (sn ≤ 20000) && (belowP start sn && st.all (fun s => rightN s sn)))) := by
    show _ = _
    rw [hR, ← hsn]
    rfl
  rw [← hR]
  clear hns hsn hB hR
  generalize belowP start sn = T at *
  go_enter Tryd.func17, Tryd.ntmps17
  by_cases h20 : sn ≤ 20000
  · have h20' : ¬ (20000 : Int) < (sn : Int) := by omega
    have r0 := HB1.out.cell 0
    have r1 := HB1.out.cell 1
    simp at r0 r1
    cases T with
    | false =>
      have HF : Hid (R = false) := by show _ = _; rw [HR.out]; simp
      clear HR
      go_upto_region 1 with (fail)
      rw [← hW1]
      clear hW1
      go_wp2_with (go_at_call 41; refine (HBE.out _).mono ?_; rintro e w5 ⟨rfl, rfl⟩)
      go_ret
      exact ⟨ret_bool HF.out.symm, HL1.out⟩
    | true =>
      have HT : Hid (R = st.all (fun s => rightN s sn)) := by show _ = _; rw [HR.out]; simp [h20]
      clear HR
      go_upto_region 1 with (fail)
      rw [← hW1]
      clear hW1
      go_wp2_with (go_at_call 41; refine (HBE.out _).mono ?_; rintro e w5 ⟨rfl, hw5⟩; subst w5)
      go_loopw [21] (fun i wr => ∃ k : Nat, k ≤ sn ∧ i = .int .i64 (k : Int) ∧ Hid (Below w.heap.size w wr) ∧ Hid (∀ s ∈ st.take k, rightN s sn = true)) (fun i _ => sn - (intOf i).toNat)
      case atStart => exact ⟨0, Nat.zero_le _, rfl, HL1.out, fun s hs => by simp at hs⟩
      case round =>
        obtain ⟨k, hk, rfl, HL, HA⟩ := hrel
        by_cases hlt : k < sn
        · obtain ⟨s, hs⟩ : ∃ s, st[k]? = some s := ⟨_, List.getElem?_eq_getElem (by rw [HSN.out]; exact hlt)⟩
          obtain ⟨g, off, e2, hg, hcs⟩ := HNS.out k s hs
          have hcw : ∀ j u, (nsCells s)[j]? = some u → wr.cell? ⟨g, off + k * 8 + j, none⟩ = some u := fun j u hj => (HL.out.cell (p := ⟨g, off + k * 8 + j, none⟩) (Nat.lt_of_lt_of_le hg HB.out)).trans (hcs j u hj)
          have a0 := hcw 0 _ rfl
          have a1 := hcw 1 _ rfl
          have a2 := hcw 2 _ rfl
          have a3 := hcw 3 _ rfl
          have a4 := hcw 4 _ rfl
          have a5 := hcw 5 _ rfl
          have a6 := hcw 6 _ rfl
          have a7 := hcw 7 _ rfl
          rw [Nat.add_zero] at a0
          subst e2
          have hk0 : (0 : Int) ≤ (k : Int) := by omega
          have hkl : (k : Int) < (sn : Int) := by omega
          have HRS := Lib.hid (fun W => rightState_any s sn W)
          obtain ⟨C, hC⟩ : ∃ C, C = rightN s sn := ⟨_, rfl⟩
          rw [← hC] at HRS
          have HTK : Hid (C = true → ∀ t ∈ st.take (k + 1), rightN t sn = true) := fun h t ht => by
            obtain ⟨hk2, e⟩ := List.getElem?_eq_some_iff.1 hs
            rw [List.take_succ_eq_append_getElem hk2, e] at ht
            rcases List.mem_append.1 ht with ht | ht
            · exact HA.out t ht
            · rw [List.mem_singleton.1 ht, ← hC]; exact h
          have HNO : Hid (C = false → R = false) := fun h => by
            rw [HT.out, List.all_eq_false]
            exact ⟨s, List.mem_of_getElem? hs, by rw [← hC, h]; decide⟩
          have HLA : Hid (Below w.heap.size w (wr.alloc (.cells (nsCells s).toArray 56))) := HL.out.alloc HL.out.size _
          have HNW := Lib.hid (Blk.new wr 56 (nsCells s).toArray)
          unfold nsCells at HRS HLA HNW
          clear hcw hcs hs hC
          cases C with
          | true =>
            have HTK2 := Lib.hid (HTK.out rfl)
            clear HTK HNO HA
            go_wp2_with (go_at_call 42; refine (HRS.out _).mono ?_; rintro e w6 ⟨rfl, hb6⟩; have HL6 := Lib.hid (HLA.out.trans (hb6.mono HLA.out.size)); clear hb6)
            refine ⟨⟨k + 1, hlt, by push_cast; rfl, HL6, HTK2⟩, by simp [intOf]; omega⟩
          | false =>
            have HF := Lib.hid (HNO.out rfl)
            clear HTK HNO HA
            go_wp2_with (go_at_call 42; refine (HRS.out _).mono ?_; rintro e w6 ⟨rfl, hb6⟩; have HL6 := Lib.hid (HLA.out.trans (hb6.mono HLA.out.size)); clear hb6)
            go_ret
            exact ⟨ret_bool HF.out.symm, HL6.out⟩
        · obtain rfl : k = sn := by omega
          have HF : Hid (R = true) := by
            show _ = _
            rw [HT.out, List.all_eq_true]
            intro s hs
            exact HA.out s (by rw [List.take_of_length_le (by rw [HSN.out]; exact Nat.le_refl _)]; exact hs)
          clear HA
          go_wp2_with (fail)
          go_ret
          exact ⟨ret_bool HF.out.symm, HL.out⟩
  · have h20' : (20000 : Int) < (sn : Int) := by omega
    have HF : Hid (R = false) := by show _ = _; rw [HR.out]; simp [h20]
    have r1 := HB1.out.cell 1
    simp at r1
    clear HR
    go_upto_region 1 with (fail)
    rw [← hW1]
    clear hW1
    go_wp2_with (fail)
    go_ret
    exact ⟨ret_bool HF.out.symm, HL1.out⟩
end Go.Proofs.YtdckjjkaoecgaaaDoor
