/-
  The contract of table.Read. Conditions: the bytes lie in memory.
-/
import Derived.Test.YtkgfjapflpjdbaaTbV
namespace Go.Proofs.Ytkgfjapflpjdbaa
open Go.RowKit Go.Shelf

def wholeB (l : List UInt8) (s : Rs) : Bool := decide (s.at_ = l.length) && !s.short
def readB (l : List UInt8) : Bool := wholeB l (tableR l ⟨0, false⟩).2 && tabRightB (tableR l ⟨0, false⟩).1
def readT (l : List UInt8) : Tab := if readB l = true then (tableR l ⟨0, false⟩).1 else zeroTab
def readZ (l : List UInt8) : Int := if readB l = true then 0 else 100
structure ReadW (w W : World) (B R G : Nat) (l : List UInt8) (a : Option Addr) (c : Nat) (s : Rs) (t : Tab) (lie : Lie) (Z : Array Value) : Prop where
  rd : RdIn W R l a c s
  res : Blk W B 30 Z
  tab : TabIn W G t lie
  low : Below w.heap.size w W
  free : ∀ y, lie.at_ = some y → FreeB W y.block
theorem ReadW.later {w W W2 : World} {B R G : Nat} {l : List UInt8} {a : Option Addr} {c : Nat} {s : Rs} {t : Tab} {lie : Lie} {Z : Array Value} (h : ReadW w W B R G l a c s t lie Z) (hb : Below W.heap.size W W2) : ReadW w W2 B R G l a c s t lie Z :=
  ⟨h.rd.later hb, h.res.below hb h.res.lt, h.tab.below hb, h.low.trans (hb.mono h.low.size), fun y hy => (h.free y hy).below hb⟩
theorem ReadW.made {w W3 : World} {B R : Nat} {l : List UInt8} {a : Option Addr} {c : Nat} {s : Rs} {t : Tab} {lie : Lie} {Z : Array Value} (hr : RdIn W3 R l a c s) (hb : Blk W3 B 30 Z) (ht : TabAt W3 t lie) (hl : Below w.heap.size w W3) (hz : Z.size = 261) (hfr : ∀ y, lie.at_ = some y → FreeB W3 y.block) :
    (StoreOp 30 (.pointer (some ⟨W3.heap.size, 0, none⟩)) (.agg (tabCells t lie).toArray)).run Try.prog (W3.alloc (.cells Z 30)) = .ok () ((W3.alloc (.cells Z 30)).setRow W3.heap.size (tabCells t lie).toArray) ∧
    ReadW w ((W3.alloc (.cells Z 30)).setRow W3.heap.size (tabCells t lie).toArray) B R W3.heap.size l a c s t lie Z := by
  have h0 : Below W3.heap.size W3 ((W3.alloc (.cells Z 30)).setRow W3.heap.size (tabCells t lie).toArray) := below_row ((Below.refl _ _).alloc (Nat.le_refl _) _) _ _ (Nat.le_refl _)
  exact ⟨store_run _ _ Z t lie (Blk.new _ _ _) hz ht.of, hr.later h0, hb.below h0 hb.lt, ⟨setRow_heap _ _ _ _ _ _ (Blk.new W3 _ Z), ht.below h0⟩, hl.trans (h0.mono hl.size), fun y hy => (hfr y hy).below h0⟩
/-- the answer goes out -/
theorem ReadW.out {w W : World} {B R G : Nat} {l : List UInt8} {a : Option Addr} {c : Nat} {s : Rs} {t : Tab} {lie : Lie} {Z : Array Value} (h : ReadW w W B R G l a c s t lie Z) (hB : w.heap.size ≤ B) (hz : Z.size = 261) (t2 : Tab) (lie2 : Lie) (ht : TabAt W t2 lie2) (hlt : LieFrom (B + 1) lie2) :
    (StoreOp 30 (.pointer (some ⟨B, 0, none⟩)) (.agg (tabCells t2 lie2).toArray)).run Try.prog W = .ok () (W.setRow B (tabCells t2 lie2).toArray) ∧ Below w.heap.size w (W.setRow B (tabCells t2 lie2).toArray) ∧ TabAt (W.setRow B (tabCells t2 lie2).toArray) t2 lie2 ∧ Blk (W.setRow B (tabCells t2 lie2).toArray) B 30 (tabCells t2 lie2).toArray :=
  ⟨store_run _ _ Z t2 lie2 h.res hz ht.of, below_row h.low _ _ hB, ht.only (only_setRow B W _) (fun x hx => by have := hlt.an x hx; omega) (fun x hx => by have := hlt.at_ x hx; omega) (fun x hx => by have := hlt.ns x hx; omega), setRow_heap _ _ _ _ _ _ h.res⟩
theorem LieFrom.mono {B C : Nat} {p : Lie} (h : LieFrom B p) (hc : C ≤ B) : LieFrom C p := ⟨fun x hx => Nat.le_trans hc (h.an x hx), fun x hx => Nat.le_trans hc (h.at_ x hx), fun x hx => Nat.le_trans hc (h.ns x hx)⟩
attribute [local go_sem ↓] loadOp_C loadOp_T allocOp_T storeOp_T buildOp_T
set_option maxRecDepth 100000 in
set_option maxHeartbeats 2000000 in
theorem read_all (a : Option Addr) (l : List UInt8) (c : Nat) (w : World) (h : BytesAt w a l) (hc : l.length ≤ c) (hm : c ≤ maxLen) :
    Calls Try.prog 15 #[.slice a l.length c] w fun e w' => ∃ lie, e = .returned (.tuple #[.agg (tabCells (readT l) lie).toArray, .int .i64 (readZ l)]) ∧ Below w.heap.size w w' ∧ TabAt w' (readT l) lie ∧ LieFrom w.heap.size lie ∧ (∀ y, lie.at_ = some y → FreeB w' y.block) := by
  obtain ⟨Z, hZ⟩ : ∃ Z, (tabCells zeroTab zeroLie).toArray = Z := ⟨_, rfl⟩
  have hzs : Z.size = 261 := by rw [← hZ, List.size_toArray, tab_len zeroTab zeroLie List.length_replicate]
  have HRUN0 := alloc_run
  have HBLD := build_run
  rw [hZ] at HRUN0 HBLD
  obtain ⟨s1, hs1⟩ : ∃ s1, (tableR l ⟨0, false⟩).2 = s1 := ⟨_, rfl⟩
  obtain ⟨t, ht⟩ : ∃ t, (tableR l ⟨0, false⟩).1 = t := ⟨_, rfl⟩
  have C1 : Hid (∀ W, Calls Try.prog 27 #[.slice a l.length c] W fun e w' => e = .returned (.pointer (some ⟨W.heap.size, 0, none⟩)) ∧ w' = W.alloc (.cells (rdCells l a c ⟨0, false⟩) 58)) := fun W => readerOf_any a l c W (Nat.le_trans hc hm)
  have H2 : Hid (∀ W, W = (w.alloc (.cells Z 30)).alloc (.cells (rdCells l a c ⟨0, false⟩) 58) → RdIn W (w.heap.size + 1) l a c ⟨0, false⟩ ∧ Blk W w.heap.size 30 Z ∧ w.heap.size + 1 ≤ W.heap.size ∧ ∀ W2, Only (w.heap.size + 1) W W2 → Below w.heap.size w W2) := fun W hW => by
    subst hW
    have hb1 : Below w.heap.size w (w.alloc (.cells Z 30)) := (Below.refl _ _).alloc (Nat.le_refl _) _
    have h1 := RdIn.start (w := w.alloc (.cells Z 30)) (RowAt.below h hb1) hc hm
    rw [World.size_alloc] at h1
    refine ⟨h1, ?_, ?_, fun W2 ho => ?_⟩
    · have := Blk.new w 30 Z
      exact this.below ((Below.refl _ _).alloc (Nat.le_refl _) _) this.lt
    · rw [World.size_alloc, World.size_alloc]; omega
    · exact (hb1.alloc (by rw [World.size_alloc]; omega) _).trans (ho.below (by omega) (by rw [World.size_alloc, World.size_alloc]; omega))
  have C2 : Hid (∀ W, RdIn W (w.heap.size + 1) l a c ⟨0, false⟩ → Calls Try.prog 28 #[.pointer (some ⟨w.heap.size + 1, 0, none⟩)] W fun e w' => ∃ lie, e = .returned (.agg (tabCells t lie).toArray) ∧ Only (w.heap.size + 1) W w' ∧ RdIn w' (w.heap.size + 1) l a c s1 ∧ TabAt w' t lie ∧ LieFrom W.heap.size lie ∧ (∀ y, lie.at_ = some y → FreeB w' y.block)) := fun W hW => by
    have := table_any W _ l a c _ hW
    rw [hs1, ht] at this
    exact this
  have HBR : Hid (w.heap.size ≠ w.heap.size + 1) := by show _ ≠ _; omega
  have HMK : Hid (∀ W3 lie, Below w.heap.size w W3 → RdIn W3 (w.heap.size + 1) l a c s1 → Blk W3 w.heap.size 30 Z → TabAt W3 t lie → (∀ y, lie.at_ = some y → FreeB W3 y.block) → (StoreOp 30 (.pointer (some ⟨W3.heap.size, 0, none⟩)) (.agg (tabCells t lie).toArray)).run Try.prog (W3.alloc (.cells Z 30)) = .ok () ((W3.alloc (.cells Z 30)).setRow W3.heap.size (tabCells t lie).toArray) ∧
    ReadW w ((W3.alloc (.cells Z 30)).setRow W3.heap.size (tabCells t lie).toArray) w.heap.size (w.heap.size + 1) W3.heap.size l a c s1 t lie Z) := fun W3 lie h1 h2 h3 h4 h5 => ReadW.made h2 h3 h4 h1 hzs h5
  have C3 : Hid (∀ W, RdIn W (w.heap.size + 1) l a c s1 → Calls Try.prog 29 #[.pointer (some ⟨w.heap.size + 1, 0, none⟩)] W fun e w' => e = .returned (.bool (wholeB l s1)) ∧ Below W.heap.size W w') := fun W hW => whole_any W _ l a c s1 hW
  have C4 : Hid (∀ W lie, TabAt W t lie → Calls Try.prog 9 #[.agg (tabCells t lie).toArray] W fun e w' => e = .returned (.bool (tabRightB t)) ∧ Below W.heap.size W w') := fun W lie hW => right_agg t lie _ rfl W hW
  have HZB : Hid (readB l = (wholeB l s1 && tabRightB t)) := by show _ = _; unfold readB; rw [hs1, ht]
  have HTB : Hid (readT l = if readB l = true then t else zeroTab) := by show _ = _; unfold readT; rw [ht]
  have HZZ : Hid (readZ l = if readB l = true then 0 else 100) := show _ = _ from rfl
  have HNO : Hid (∀ W G lie, ReadW w W w.heap.size (w.heap.size + 1) G l a c s1 t lie Z → (StoreOp 30 (.pointer (some ⟨w.heap.size, 0, none⟩)) (.agg Z)).run Try.prog W = .ok () (W.setRow w.heap.size Z) ∧ Below w.heap.size w (W.setRow w.heap.size Z) ∧ TabAt (W.setRow w.heap.size Z) zeroTab zeroLie ∧ Blk (W.setRow w.heap.size Z) w.heap.size 30 Z) := fun W G lie hW => by
    have hn : ∀ W, RowAt W none [] := fun W => ⟨by decide, fun h => absurd h (by decide)⟩
    have := hW.out (Nat.le_refl _) hzs zeroTab zeroLie ⟨List.length_replicate, hn _, hn _, hn _, fun s hs => (by cases hs)⟩ (zero_from _)
    rw [hZ] at this
    exact this
  have HYES : Hid (∀ W G lie, ReadW w W w.heap.size (w.heap.size + 1) G l a c s1 t lie Z → LieFrom (w.heap.size + 1) lie → (StoreOp 30 (.pointer (some ⟨w.heap.size, 0, none⟩)) (.agg (tabCells t lie).toArray)).run Try.prog W = .ok () (W.setRow w.heap.size (tabCells t lie).toArray) ∧ Below w.heap.size w (W.setRow w.heap.size (tabCells t lie).toArray) ∧ TabAt (W.setRow w.heap.size (tabCells t lie).toArray) t lie ∧ Blk (W.setRow w.heap.size (tabCells t lie).toArray) w.heap.size 30 (tabCells t lie).toArray) := fun W G lie hW hf => hW.out (Nat.le_refl _) hzs t lie hW.tab.at_ hf
  have HZ := Lib.hid hZ
  have HLD : Hid (∀ W G lie, ReadW w W w.heap.size (w.heap.size + 1) G l a c s1 t lie Z → (LoadOp 30 (.pointer (some ⟨G, 0, none⟩))).run Try.prog W = .ok (.agg (tabCells t lie).toArray) W) := fun W G lie hW => hW.tab.read.all
  have HSI : Hid (∀ lie : Lie, t.of.length = 256 → (Try.prog.info? 30).map (·.size) = some (tabCells t lie).toArray.size) := fun lie ht => by rw [table_size, List.size_toArray, tab_len _ _ ht]
  have HSZ : Hid ((Try.prog.info? 30).map (·.size) = some Z.size) := by show _ = _; rw [table_size, hzs]
  clear h hc hm hZ hzs hs1 ht
  obtain ⟨TC, hTC⟩ : ∃ TC : Lie → Array Value, (fun lie => (tabCells t lie).toArray) = TC := ⟨_, rfl⟩
  have HTC : Hid (∀ lie, (tabCells t lie).toArray = TC lie) := fun lie => by rw [← hTC]
  clear hTC
  simp only [HTC.out] at C2 HMK C4 HYES HLD HSI
  generalize hwb : wholeB l s1 = wb at *
  generalize hrb : tabRightB t = rb at *
  clear hwb hrb
  generalize readT l = RT at *
  generalize readZ l = RZ at *
  generalize readB l = RB at *
  cases wb with
  | false =>
    have HE : Hid (RT = zeroTab ∧ RZ = 100) := by
      have h1 := HZB.out
      rw [Bool.false_and] at h1
      have h2 := HTB.out
      have h3 := HZZ.out
      rw [h1] at h2 h3
      exact ⟨h2, h3⟩
    clear HZB HTB HZZ HYES C4
    go_enter Try.func15, Try.ntmps15
    go_wp2_with (first
      | (go_at_call 27; refine (C1.out _).mono ?_; rintro e w2 ⟨rfl, hw2⟩; have HR2 := Lib.hid (H2.out _ hw2); clear hw2)
      | (go_at_call 28; refine (C2.out _ HR2.out.1).mono ?_; rintro e w3 ⟨lie, rfl, ho3, hr3, ht3, hf3, hfr3⟩; obtain ⟨e1, hw⟩ := HMK.out w3 lie (HR2.out.2.2.2 _ ho3) hr3 (ho3.blk HR2.out.2.1 HBR.out) ht3 hfr3; have HF := Lib.hid (LieFrom.mono hf3 HR2.out.2.2.1); have HW := Lib.hid hw; clear ho3 hr3 ht3 hf3 hfr3 hw)
      | (go_at_call 29; refine (C3.out _ HW.out.rd).mono ?_; rintro e w5 ⟨rfl, hb5⟩; have HW5 := Lib.hid (HW.out.later hb5); clear hb5; have e9 := (HNO.out _ _ _ HW5.out).1))
    have HO := Lib.hid (HNO.out _ _ _ HW5.out).2
    (try simp only [Exit.inBlock, Exit.then])
    refine bodyPost_ret (results_cell_tmp rfl _ _ w.heap.size 30 _ (0, 0) _ rfl HO.out.2.2 Try.underlying30 rfl HSZ.out) rfl ?_
    refine ⟨zeroLie, ?_, HO.out.1, ?_⟩
    · rw [HE.out.1, HE.out.2, HZ.out]; rfl
    · rw [HE.out.1]; exact ⟨HO.out.2.1, zero_from _, fun y hy => by cases hy⟩
  | true =>
    cases rb with
    | false =>
      have HE : Hid (RT = zeroTab ∧ RZ = 100) := by
        have h1 := HZB.out
        rw [Bool.and_false] at h1
        have h2 := HTB.out
        have h3 := HZZ.out
        rw [h1] at h2 h3
        exact ⟨h2, h3⟩
      clear HZB HTB HZZ HYES
      go_enter Try.func15, Try.ntmps15
      go_wp2_with (first
        | (go_at_call 27; refine (C1.out _).mono ?_; rintro e w2 ⟨rfl, hw2⟩; have HR2 := Lib.hid (H2.out _ hw2); clear hw2)
        | (go_at_call 28; refine (C2.out _ HR2.out.1).mono ?_; rintro e w3 ⟨lie, rfl, ho3, hr3, ht3, hf3, hfr3⟩; obtain ⟨e1, hw⟩ := HMK.out w3 lie (HR2.out.2.2.2 _ ho3) hr3 (ho3.blk HR2.out.2.1 HBR.out) ht3 hfr3; have HF := Lib.hid (LieFrom.mono hf3 HR2.out.2.2.1); have HW := Lib.hid hw; clear ho3 hr3 ht3 hf3 hfr3 hw)
        | (go_at_call 29; refine (C3.out _ HW.out.rd).mono ?_; rintro e w5 ⟨rfl, hb5⟩; have HW5 := Lib.hid (HW.out.later hb5); clear hb5; have e8 := HLD.out _ _ _ HW5.out)
        | (go_at_call 9; refine (C4.out _ lie HW5.out.tab.at_).mono ?_; rintro e w6 ⟨rfl, hb6⟩; have HW6 := Lib.hid (HW5.out.later hb6); clear hb6; have e9 := (HNO.out _ _ _ HW6.out).1))
      have HO := Lib.hid (HNO.out _ _ _ HW6.out).2
      (try simp only [Exit.inBlock, Exit.then])
      refine bodyPost_ret (results_cell_tmp rfl _ _ w.heap.size 30 _ (0, 0) _ rfl HO.out.2.2 Try.underlying30 rfl HSZ.out) rfl ?_
      refine ⟨zeroLie, ?_, HO.out.1, ?_⟩
      · rw [HE.out.1, HE.out.2, HZ.out]; rfl
      · rw [HE.out.1]; exact ⟨HO.out.2.1, zero_from _, fun y hy => by cases hy⟩
    | true =>
      have HE : Hid (RT = t ∧ RZ = 0) := by
        have h1 := HZB.out
        rw [Bool.and_true] at h1
        have h2 := HTB.out
        have h3 := HZZ.out
        rw [h1] at h2 h3
        exact ⟨h2, h3⟩
      clear HZB HTB HZZ HNO
      go_enter Try.func15, Try.ntmps15
      go_wp2_with (first
        | (go_at_call 27; refine (C1.out _).mono ?_; rintro e w2 ⟨rfl, hw2⟩; have HR2 := Lib.hid (H2.out _ hw2); clear hw2)
        | (go_at_call 28; refine (C2.out _ HR2.out.1).mono ?_; rintro e w3 ⟨lie, rfl, ho3, hr3, ht3, hf3, hfr3⟩; obtain ⟨e1, hw⟩ := HMK.out w3 lie (HR2.out.2.2.2 _ ho3) hr3 (ho3.blk HR2.out.2.1 HBR.out) ht3 hfr3; have HF := Lib.hid (LieFrom.mono hf3 HR2.out.2.2.1); have HW := Lib.hid hw; clear ho3 hr3 ht3 hf3 hfr3 hw)
        | (go_at_call 29; refine (C3.out _ HW.out.rd).mono ?_; rintro e w5 ⟨rfl, hb5⟩; have HW5 := Lib.hid (HW.out.later hb5); clear hb5; have e8 := HLD.out _ _ _ HW5.out)
        | (go_at_call 9; refine (C4.out _ lie HW5.out.tab.at_).mono ?_; rintro e w6 ⟨rfl, hb6⟩; have HW6 := Lib.hid (HW5.out.later hb6); clear hb6; have e9 := HLD.out _ _ _ HW6.out; have e10 := (HYES.out _ _ _ HW6.out HF.out).1))
      have HO := Lib.hid (HYES.out _ _ _ HW6.out HF.out).2
      (try simp only [Exit.inBlock, Exit.then])
      refine bodyPost_ret (results_cell_tmp rfl _ _ w.heap.size 30 _ (0, 0) _ rfl HO.out.2.2 Try.underlying30 rfl (HSI.out _ HO.out.2.1.of)) rfl ?_
      refine ⟨lie, ?_, HO.out.1, ?_⟩
      · rw [HE.out.1, HE.out.2, HTC.out]; rfl
      · rw [HE.out.1]; exact ⟨HO.out.2.1, HF.out.mono (by omega), fun y hy => (HW6.out.free y hy).only (only_setRow _ _ _) (by have := HF.out.at_ y hy; omega)⟩
theorem read_any (a : Option Addr) (l : List UInt8) (c : Nat) (w : World) (h : BytesAt w a l) (hc : l.length ≤ c) (hm : c ≤ maxLen) :
    Calls Try.prog 15 #[.slice a l.length c] w fun e w' => ∃ lie, e = .returned (.tuple #[.agg (tabCells (readT l) lie).toArray, .int .i64 (readZ l)]) ∧ Below w.heap.size w w' ∧ TabAt w' (readT l) lie :=
  (read_all a l c w h hc hm).mono fun e w' ⟨lie, h1, h2, h3, _⟩ => ⟨lie, h1, h2, h3⟩
end Go.Proofs.Ytkgfjapflpjdbaa
