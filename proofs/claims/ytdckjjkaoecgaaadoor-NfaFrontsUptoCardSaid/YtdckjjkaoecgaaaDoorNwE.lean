/-
  Marks copied and cleared; the contract of nfa.begun. Conditions: a right machine below the base; the library's table.
-/
import Derived.Test.YtdckjjkaoecgaaaDoorNwD
import Derived.Lib.SliceRun
import Derived.Deep.RegionHeld3
import Derived.Test.YtdckjjkaoecgaaaDoorGh
namespace Go.Proofs.YtdckjjkaoecgaaaDoor
open Go.RowKit Go.Shelf
open Go.Lib (cell?_alloc_some)

noncomputable def CopyMk (ty : TypeId) (args : Array Value) : Sem Value := Builtin.copy_ #[90, 90] ty args
theorem copyMk_eq (ty : TypeId) (args : Array Value) : Builtin.copy_ #[90, 90] ty args = CopyMk ty args := rfl
noncomputable def ClearMk (ty : TypeId) (args : Array Value) : Sem Value := Builtin.clear_ #[90] ty args
theorem clearMk_eq (ty : TypeId) (args : Array Value) : Builtin.clear_ #[90] ty args = ClearMk ty args := rfl
theorem copy_words (ty : TypeId) (W : World) (h x m : Nat) (ws wn : List Nat) (hh : Blk W h 42 (wordsV ws)) (hx : Blk W x 42 (wordsV wn)) (h1 : ws.length = m) (h2 : wn.length = m) :
    (CopyMk ty #[.slice (some ⟨h, 0, none⟩) m m, .slice (some ⟨x, 0, none⟩) m m]).run Tryd.prog W = .ok (.int .i64 (m : Int)) (W.setRow h (wordsV wn)) := by
  have h8 : (Tryd.prog.info? 42).map (·.size) = some 1 := by kernel_rfl
  have := run_copy_row Tryd.prog W 90 90 ty 42 h 0 m m ⟨x, 0, none⟩ m m (wordsV ws) 42 (wordsV wn).toList Tryd.underlying90 h8 hh (by rw [Array.length_toList, wordsV_size, h2]; simp)
    (fun j v hv => by
      rw [Addr.add_lit, Nat.zero_add, hx.cell j]
      simpa using hv)
    (by rw [Array.length_toList, wordsV_size, wordsV_size, h1, h2]; omega)
    (fun v hv => by
      unfold wordsV at hv
      obtain ⟨z, _, rfl⟩ := List.mem_map.1 hv
      rfl)
  have e : ((wordsV ws).toList.take 0 ++ (wordsV wn).toList ++ (wordsV ws).toList.drop (0 + (wordsV wn).toList.length)).toArray = wordsV wn := by
    rw [List.take_zero, List.nil_append, Nat.zero_add, List.drop_of_length_le (by rw [Array.length_toList, wordsV_size, h1, Array.length_toList, wordsV_size, h2]; exact Nat.le_refl _), List.append_nil, Array.toArray_toList]
  rw [e, Array.length_toList, wordsV_size, h2] at this
  exact this
theorem clear_words (ty : TypeId) (W : World) (x m : Nat) (wn : List Nat) (hx : Blk W x 42 (wordsV wn)) (h2 : wn.length = m) (hm : 0 < m) :
    (ClearMk ty #[.slice (some ⟨x, 0, none⟩) m m]).run Tryd.prog W = .ok (.tuple #[]) (W.setRow x (wordsV (List.replicate m 0))) := by
  have hz : ∀ w, (zeroValue 42).run Tryd.prog w = .ok (.int .u64 0) w := fun w => by go_simp
  have hzc : (Builtin.zeroCells (Value.int .u64 0).cells m).toList = List.replicate m (Value.int .u64 0) := by
    rw [show (Value.int .u64 0).cells = #[.int .u64 0] from rfl]
    simp [Builtin.zeroCells]
    apply List.ext_getElem
    · simp
    · intro i h1 h2
      simp [Nat.mod_one]
  have hst := run_storeCells_at Tryd.prog x 0 42 (List.replicate m (Value.int .u64 0)) 0 (wordsV wn) W hx (by rw [List.length_replicate, wordsV_size, h2]; omega) (fun v hv => by rw [List.eq_of_mem_replicate hv]; rfl)
  have e : ((wordsV wn).toList.take (0 + 0) ++ List.replicate m (Value.int .u64 0) ++ (wordsV wn).toList.drop (0 + 0 + (List.replicate m (Value.int .u64 0)).length)).toArray = wordsV (List.replicate m 0) := by
    rw [List.take_zero, List.nil_append, List.length_replicate, List.drop_of_length_le (by rw [Array.length_toList, wordsV_size, h2]; omega), List.append_nil]
    unfold wordsV
    rw [List.map_replicate]
    rfl
  rw [e] at hst
  obtain ⟨n, rfl⟩ : ∃ n, m = n + 1 := ⟨m - 1, by omega⟩
  unfold ClearMk
  simp [Builtin.clear_, run_underlying Tryd.underlying90, hz, hzc, hst]
theorem setRow_blk {w : World} {g : Nat} {t : TypeId} {cs : Array Value} (h : Blk w g t cs) (cs' : Array Value) : Blk (w.setRow g cs') g t cs' := setRow_heap w g cs cs' t (0, 0) h
theorem setRow_ne {w : World} {g g' : Nat} {t : TypeId} {cs : Array Value} (h : Blk w g t cs) (hne : g ≠ g') (cs' : Array Value) : Blk (w.setRow g' cs') g t cs := (Go.setRow_other w g' g cs' hne).trans h
theorem below_setRow {B g : Nat} {w0 w : World} (h : Below B w0 w) (hg : B ≤ g) (cs : Array Value) : Below B w0 (w.setRow g cs) := ⟨h.os, h.tape, h.output, by rw [size_setRow]; exact h.size, fun k hk => (Go.setRow_other w g k cs (by omega)).trans (h.block k hk)⟩
theorem Wk.copied {W : World} {B b : Nat} {sa : Option Addr} {sn sc h x m : Nat} {av : Value} {ws wn : List Nat} (k : Wk W B b sa sn sc h x m av ws wn) : Wk (W.setRow h (wordsV wn)) B b sa sn sc h x m av wn wn :=
  ⟨setRow_ne k.blk (blk_ne k.blk k.here (by decide)) _, setRow_blk k.here _, setRow_ne k.next (Ne.symm k.apart) _, k.apart, k.ge⟩
theorem Wk.cleared {W : World} {B b : Nat} {sa : Option Addr} {sn sc h x m : Nat} {av : Value} {ws wn : List Nat} (k : Wk W B b sa sn sc h x m av ws wn) (q : Nat) : Wk (W.setRow x (wordsV (List.replicate q 0))) B b sa sn sc h x m av ws (List.replicate q 0) :=
  ⟨setRow_ne k.blk (blk_ne k.blk k.next (by decide)) _, setRow_ne k.here k.apart _, setRow_blk k.next _, k.apart, k.ge⟩
theorem keepsOthers_row {W : World} {g : Nat} {t : TypeId} {cs : Array Value} (hb : Blk W g t cs) (cs' : Array Value) : KeepsOthers W (W.setRow g cs') := ⟨by rw [size_setRow]; exact Nat.le_refl _, fun k o hk ho => by
  by_cases e : k = g
  · subst e
    rw [show W.heap[k]? = _ from hb] at hk
    injection hk with hk
    subst hk
    cases ho
  · exact (Go.setRow_other W g k cs' e).trans hk⟩
theorem keepW_row {tg : Nat} {a W : World} (h : KeepW tg a W) {g : Nat} {cs : Array Value} (hb : Blk W g 42 cs) (cs' : Array Value) : KeepW tg a (W.setRow g cs') := ⟨h.1.trans (keepsOthers_row hb cs'), fun g' t' c' hb' h1 h2 h3 => setRow_ne (h.2 g' t' c' hb' h1 h2 h3) (blk_ne (h.2 g' t' c' hb' h1 h2 h3) hb h2) _⟩
theorem own_row_other {W : World} {B z n g : Nat} {e t : TypeId} {v : Value} {xs : List Value} {cs : Array Value} (h : W.ownsRow B e z v n xs) (hb : Blk W g t cs) (hne : t ≠ e) (cs' : Array Value) : (W.setRow g cs').ownsRow B e z v n xs := by
  refine ⟨h.1, ?_⟩
  rcases h.2 with h0 | ⟨g', c, cur, e1, hg, hh, r⟩
  · exact .inl h0
  · exact .inr ⟨g', c, cur, e1, hg, setRow_ne hh (blk_ne hh hb (Ne.symm hne)) _, r⟩
/-- under way, all that is known -/
structure At (B tg b : Nat) (sa : Option Addr) (sn sc h x m : Nat) (st : List NS) (S : Nat → Prop) (W0 W : World) : Prop where
  walk : ∃ av ws wn, Wk W B b sa sn sc h x m av ws wn ∧ OwnX W B tg av [] ∧ (WordsOk ws ∧ ws.length = m) ∧ (WordsOk wn ∧ wn.length = m) ∧ ∀ q, bitAt ws q = true ↔ S q
  low : Below B W0 W
  keep : KeepW tg W0 W
attribute [local go_sem ↓] copyMk_eq clearMk_eq
set_option maxRecDepth 100000 in
set_option maxHeartbeats 8000000 in
theorem begun_any (tg : Nat) (sa : Option Addr) (sc : Nat) (st : List NS) (sn m p : Nat) (hsn : st.length = sn) (hm : m = (sn + 63) / 64) (hsl : sn ≤ 20000) (hp : p < sn) (w : World) (hns : NsIn w w.heap.size sa st) (hw : WaysOk st) (htg : tg < w.heap.size) :
    Calls Tryd.prog 35 #[.agg #[.int .i64 (p : Int), .slice sa sn sc]] w fun e w' => ∃ b h x, e = .returned (.pointer (some ⟨b, 0, none⟩)) ∧ At w.heap.size tg b sa sn sc h x m st (Reach st p) w w' := by
  obtain ⟨W1, hW1⟩ : ∃ W1, W1 = w.alloc (.cells #[.int .i64 (p : Int), .slice sa sn sc] 25) := ⟨_, rfl⟩
  have HB1 : Hid (Blk W1 w.heap.size 25 #[.int .i64 (p : Int), .slice sa sn sc]) := by rw [hW1]; exact Blk.new _ _ _
  have HL1 : Hid (Below w.heap.size w W1) := by rw [hW1]; exact (Below.refl _ _).alloc (Nat.le_refl _) _
  have HSZ : Hid (W1.heap.size = w.heap.size + 1) := by rw [hW1]; exact World.size_alloc _ _
  have HBL : Hid (∀ W, Calls Tryd.prog 55 #[.int .i64 (sn : Int)] W fun e w' => ∃ g, e = .returned (.slice (some ⟨g, 0, none⟩) m m) ∧ Blk w' g 42 (wordsV (List.replicate m 0)) ∧ W.heap.size ≤ g ∧ Below W.heap.size W w') := fun W => (blank_any sn m (by omega) hm W).mono fun e w' ⟨h1, h2, h3⟩ => ⟨_, h1, h2, Nat.le_refl _, h3⟩
  have r0 := HB1.out.cell 0
  have r1 := HB1.out.cell 1
  simp at r0 r1
  have HNS := Lib.hid hns
  have HW := Lib.hid hw
  have HSN := Lib.hid hsn
  have HM := Lib.hid hm
  clear hns hw hsn hm
  go_enter Tryd.func35, Tryd.ntmps35
  go_upto_region 2 with (fail)
  rw [← hW1]
  clear hW1
  have HS1 : Hid (W1.drew.cell? ⟨w.heap.size, 1, none⟩ = some (.slice sa sn sc)) := r1
  refine wp_region_held_drew (S := (fun W => W.cell? ⟨w.heap.size, 1, none⟩ = some (.slice sa sn sc))) (by kernel_rfl) HS1.out (fun hS => ?_)
  refine take_val (i := 0) rfl (by kernel_rfl) (by kernel_rfl) (by kernel_rfl) (fun _ _ _ h => h) rfl (fun w hSw => by (try dsimp only at hSw); go_simp; try with_reducible rfl) hS ?_; try simp only [Act.put, List.setIfInBounds_toArray, List.set_cons_zero, List.set_cons_succ]
  refine take_val (i := 1) rfl (by kernel_rfl) (by kernel_rfl) (by kernel_rfl) (fun _ _ _ h => h) rfl (fun w hSw => by (try dsimp only at hSw); go_simp; try with_reducible rfl) hS ?_; try simp only [Act.put, List.setIfInBounds_toArray, List.set_cons_zero, List.set_cons_succ]
  refine take_val (i := 2) rfl (by kernel_rfl) (by kernel_rfl) (by kernel_rfl) (fun _ _ _ h => h) rfl (fun w hSw => by (try dsimp only at hSw); go_simp; try with_reducible rfl) hS ?_; try simp only [Act.put, List.setIfInBounds_toArray, List.set_cons_zero, List.set_cons_succ]
  refine take_val (i := 4) rfl (by kernel_rfl) (by kernel_rfl) (by kernel_rfl) (fun _ _ _ h => h) rfl (fun w hSw => by (try dsimp only at hSw); go_simp; try with_reducible rfl) hS ?_; try simp only [Act.put, List.setIfInBounds_toArray, List.set_cons_zero, List.set_cons_succ]
  refine take_call (i := 3) rfl (by kernel_rfl) rfl (fun K hK => ?_)
  go_simp; refine (HBL.out _).mono ?_; rintro e w5 ⟨h, rfl, hb5, hg5, hl5⟩; go_wp2_with fail
  have HH5 := Lib.hid hb5
  have HG5 := Lib.hid hg5
  have HL5 := Lib.hid hl5
  have hS5 : w5.cell? ⟨w.heap.size, 1, none⟩ = some (.slice sa sn sc) := (hl5.cell (p := ⟨w.heap.size, 1, none⟩) (by show w.heap.size < W1.heap.size; rw [HSZ.out]; omega)).trans HS1.out
  refine hK.out _ _ hS5 (fun hS => ?_); clear hK K hb5 hg5 hl5; try simp only [Act.put, List.setIfInBounds_toArray, List.set_cons_zero, List.set_cons_succ]
  refine take_call (i := 5) rfl (by kernel_rfl) rfl (fun K hK => ?_)
  go_simp; refine (HBL.out _).mono ?_; rintro e w6 ⟨x, rfl, hb6, hg6, hl6⟩; go_wp2_with fail
  have HH6 := Lib.hid hb6
  have HG6 := Lib.hid hg6
  have HL6 := Lib.hid hl6
  have hS6 : w6.cell? ⟨w.heap.size, 1, none⟩ = some (.slice sa sn sc) := (hl6.cell (p := ⟨w.heap.size, 1, none⟩) (by have h1 := HL5.out.size; have h2 : W1.drew.heap.size = w.heap.size + 1 := HSZ.out; show w.heap.size < w5.heap.size; omega)).trans hS5
  refine hK.out _ _ hS6 (fun hS => ?_); clear hK K hb6 hg6 hl6; try simp only [Act.put, List.setIfInBounds_toArray, List.set_cons_zero, List.set_cons_succ]
  refine take_val (i := 6) rfl (by kernel_rfl) (by kernel_rfl) (by kernel_rfl) (fun _ _ _ h => h) rfl (fun w hSw => by (try dsimp only at hSw); go_simp; try with_reducible rfl) hS ?_; try simp only [Act.put, List.setIfInBounds_toArray, List.set_cons_zero, List.set_cons_succ]
  refine take_call (i := 7) rfl (by kernel_rfl) rfl (fun K hK => ?_)
  go_simp
  refine hK.out _ _ (cell?_alloc_some _ hS) (fun hS => ?_); clear hK K; try simp only [Act.put, List.setIfInBounds_toArray, List.set_cons_zero, List.set_cons_succ]
  refine take_val (i := 8) rfl (by kernel_rfl) (by kernel_rfl) (by kernel_rfl) (fun _ _ _ h => h) rfl (fun w hSw => by (try dsimp only at hSw); go_simp; try with_reducible rfl) hS ?_; try simp only [Act.put, List.setIfInBounds_toArray, List.set_cons_zero, List.set_cons_succ]
  refine wpAnyH_done (by kernel_rfl) ?_ _
  clear hS hS5 hS6
  have hsz5 : w.heap.size + 1 ≤ w5.heap.size := by have h1 := HL5.out.size; have h2 : W1.drew.heap.size = w.heap.size + 1 := HSZ.out; omega
  have hsz6 : w.heap.size + 1 ≤ w6.heap.size := by have h1 := HL6.out.size; omega
  have HB6 : Hid (Below w.heap.size w w6) := (HL1.out.drew.trans (HL5.out.mono (by have h2 : W1.drew.heap.size = w.heap.size + 1 := HSZ.out; omega))).trans (HL6.out.mono (by omega))
  obtain ⟨W7, hW7⟩ : ∃ W7, W7 = w6.alloc (.cells #[.slice sa sn sc, .slice (some ⟨h, 0, none⟩) m m, .slice (some ⟨x, 0, none⟩) m m, .slice none 0 0] 93) := ⟨_, rfl⟩
  have hh5 : h < w5.heap.size := HH5.out.lt
  have HK7 : Hid (Wk W7 w.heap.size w6.heap.size sa sn sc h x m (.slice none 0 0) (List.replicate m 0) (List.replicate m 0)) := by
    rw [hW7]
    refine ⟨Blk.new _ _ _, (HH5.out.below HL6.out HH5.out.lt).alloc _, HH6.out.alloc _, ?_, ?_, ?_, ?_⟩
    · have := HG6.out; omega
    · omega
    · have h1 := HG5.out; have h2 : W1.drew.heap.size = w.heap.size + 1 := HSZ.out; omega
    · have := HG6.out; omega
  have HL7 : Hid (Below w.heap.size w W7) := by rw [hW7]; exact HB6.out.alloc (by omega) _
  have c0 : W7.cell? ⟨w.heap.size, 0, none⟩ = some (.int .i64 (p : Int)) := by
    rw [hW7]
    refine cell?_alloc_some _ ?_
    rw [HL6.out.cell (p := ⟨w.heap.size, 0, none⟩) (by show w.heap.size < w5.heap.size; omega), HL5.out.cell (p := ⟨w.heap.size, 0, none⟩) (by have h2 : W1.drew.heap.size = w.heap.size + 1 := HSZ.out; show w.heap.size < _; omega)]
    exact r0
  have HC := Lib.hid (come_any w.heap.size tg w6.heap.size sa sc h x m (.slice none 0 0) (List.replicate m 0) (List.replicate m 0) st sn HSN.out p W7 HK7.out ⟨World.ownsRow_nil _ _ _ _, (fun h => by cases h), Nat.lt_of_lt_of_le htg HL7.out.size⟩ HL7.out.size (HNS.out.below HL7.out) HW.out (words_blank m) (by simp) (by have := HM.out; omega) (by have := HM.out; omega) hp (fun y s hy => by have hy2 : bitAt (List.replicate m 0) y = true := hy; rw [bit_blank] at hy2; cases hy2))
  obtain ⟨b, hb⟩ : ∃ b, b = w6.heap.size := ⟨_, rfl⟩
  rw [← hb, ← hW7]
  rw [← hb] at HC
  clear hW7 hb hsz5 hsz6 hh5
  go_upto_region 4 with (go_at_call 56; refine HC.out.mono ?_; rintro e w8 ⟨⟨v8, rfl⟩, hout⟩; have HO8 := Lib.hid hout; clear hout)
  obtain ⟨av, wn', hk8, hav8, hwo8, hwl8, hbits8, hcl8⟩ := HO8.out.walk
  have hcp := fun ty => copy_words ty w8.drew h x m (List.replicate m 0) wn' hk8.here.drew hk8.next.drew (by simp) hwl8
  have b1 := hk8.blk.drew.cell 1
  have b2 := hk8.blk.drew.cell 2
  simp at b1 b2
  have HK9 := Lib.hid hk8.drew.copied
  have HA9 : Hid (OwnX (w8.drew.setRow h (wordsV wn')) w.heap.size tg av []) := ⟨own_row_other hav8.own.drew hk8.here.drew (by decide) (wordsV wn'), hav8.ne, by rw [size_setRow]; exact hav8.lt⟩
  have HL9 : Hid (Below w.heap.size w (w8.drew.setRow h (wordsV wn'))) := below_setRow (HL7.out.trans HO8.out.low).drew hk8.ge.2.1 _
  have HB9 : Hid (∀ q, bitAt wn' q = true ↔ Reach st p q) := fun q => by
    rw [hbits8 q, bit_blank]
    simp
  have HW9 : Hid (WordsOk wn' ∧ wn'.length = m) := ⟨hwo8, hwl8⟩
  clear hk8 hav8 hwo8 hwl8 hbits8 hcl8 HO8 HC HK7
  go_region
  go_wp2
  go_ret
  exact ⟨b, h, x, rfl, ⟨av, wn', wn', HK9.out, HA9.out, HW9.out, HW9.out, HB9.out⟩, HL9.out, KeepW.of_below HL9.out⟩
end Go.Proofs.YtdckjjkaoecgaaaDoor
