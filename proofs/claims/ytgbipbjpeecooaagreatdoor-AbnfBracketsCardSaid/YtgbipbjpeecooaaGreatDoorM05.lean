/-
  Merged texts (RdT, RdU, WholeQ, LvL, LvP, RdV, Trees, LvA, RRow, RuS), each under a head of its own that says what it proves and under which conditions.
-/
import Derived.Test.YtgbipbjpeecooaaGreatDoorM04
import Derived.Test.YtgbipbjpeecooaaGreatDoorM03
/-
  The contract of the parser's rule. Conditions: the reader, the tokens and the table of leaves lie in memory; texts of at most 65536 bytes; a token stands next.
-/
namespace Go.Proofs.YtgbipbjpeecooaaGreatDoor
open Go.RowKit

def ruleV (x : Rl) (sl : Value) : Value := .agg #[.string (bs x.name), .int .i64 x.place, .bool x.more, .int .u8 x.tree.kind, .string (bs x.tree.text), .int .u8 x.tree.lo, .int .u8 x.tree.hi, .int .i64 x.tree.mn, .int .i64 x.tree.mx, sl]
def noRule : Rl := { name := [], place := 0, more := false, tree := noTree }
def RuleVal (ex : List Nat) (r : Nat) : Option Rl → Ending → World → Prop
  | none, e, _ => e = .returned (.tuple #[ruleV noRule noKids, .bool false])
  | some x, e, w' => ∃ sl, e = .returned (.tuple #[ruleV x sl, .bool true]) ∧ KidsAt w' (fun b => b ∉ ex ∧ b ≠ r) x.tree.kids sl ∧ x.tree.text.length ≤ maxLen
def RuleOut (w : World) (r : Nat) (ex : List Nat) (A : Option Addr) (n c : Nat) (toks : List Tk) (R : Option Rl × Nat) (e : Ending) (w' : World) : Prop :=
  (∃ vo, Rd w' r A n c toks R.2 vo) ∧ Only r w w' ∧ RuleVal ex r R.1 e w'

/-- a rule stored, cell by cell -/
def put10 (w : World) (b : Nat) (x : Rl) (sl : Value) : World :=
  (((((((((w.setCell ⟨b, 0, none⟩ (.string (bs x.name))).setCell ⟨b, 1, none⟩ (.int .i64 x.place)).setCell ⟨b, 2, none⟩ (.bool x.more)).setCell ⟨b, 3, none⟩ (.int .u8 x.tree.kind)).setCell ⟨b, 4, none⟩ (.string (bs x.tree.text))).setCell ⟨b, 5, none⟩ (.int .u8 x.tree.lo)).setCell ⟨b, 6, none⟩ (.int .u8 x.tree.hi)).setCell ⟨b, 7, none⟩ (.int .i64 x.tree.mn)).setCell ⟨b, 8, none⟩ (.int .i64 x.tree.mx)).setCell ⟨b, 9, none⟩ sl
theorem put10_only (w : World) (b : Nat) (x : Rl) (sl : Value) : Only b w (put10 w b x sl) := by
  unfold put10
  iterate 10 refine Only.set ?_ _ _
  exact Only.refl _ _
theorem put10_size (w : World) (b : Nat) (x : Rl) (sl : Value) : (put10 w b x sl).heap.size = w.heap.size := by
  unfold put10
  simp [World.setCell]
theorem put10_of {r : Nat} {w w2 : World} (h : Only r w w2) (x : Rl) (sl : Value) : Only r w (put10 w2 w.heap.size x sl) := by
  have hp := put10_only w2 w.heap.size x sl
  exact ⟨hp.os.trans h.os, hp.tape.trans h.tape, hp.output.trans h.output, Nat.le_trans h.size hp.size, fun k hk hr => (hp.block k (Nat.lt_of_lt_of_le hk h.size) (fun e => by have := Option.some.inj e; omega)).trans (h.block k hk hr)⟩
theorem put10_rd {w2 : World} {B r : Nat} {A : Option Addr} {n c : Nat} {toks : List Tk} {at_ : Nat} {vo : Value} (h : Rd w2 r A n c toks at_ vo) (hr : r < B) (x : Rl) (sl : Value) : Rd (put10 w2 B x sl) r A n c toks at_ vo := by
  have hp := put10_only w2 B x sl
  by_cases hB : B ≤ w2.heap.size
  · exact h.under ⟨hp.os, hp.tape, hp.output, hp.size, fun k hk => hp.block k (by omega) (fun e => by have := Option.some.inj e; omega)⟩ hr
  · exact h.later ⟨hp.os, hp.tape, hp.output, hp.size, fun k hk => hp.block k hk (fun e => by have := Option.some.inj e; omega)⟩
theorem ruleOut_none {w w2 : World} {r : Nat} {ex : List Nat} {A : Option Addr} {n c : Nat} {toks : List Tk} {at2 : Nat} {vo : Value} {R : Option Rl × Nat} (hR : R = (none, at2)) (hrd : Rd w2 r A n c toks at2 vo) (ho : Only r w w2) (hr : r < w.heap.size) : RuleOut w r ex A n c toks R (.returned (.tuple #[ruleV noRule noKids, .bool false])) (put10 w2 w.heap.size noRule (.slice none 0 0)) := by
  subst hR
  exact ⟨⟨vo, put10_rd hrd hr _ _⟩, put10_of ho _ _, rfl⟩
theorem RuleOut.later_none {w w1 w' : World} {r : Nat} {ex : List Nat} {A : Option Addr} {n c : Nat} {toks : List Tk} {at2 : Nat} {R : Option Rl × Nat} {e : Ending} (hR : R = (none, at2)) (h : RuleOut w r ex A n c toks R e w1) (hb : Below w1.heap.size w1 w') : RuleOut w r ex A n c toks R e w' := by
  subst hR
  obtain ⟨⟨vo, hrd⟩, ho, hv⟩ := h
  exact ⟨⟨vo, hrd.later hb⟩, ho.trans (Only.of_below hb), hv⟩

set_option maxRecDepth 100000 in
set_option maxHeartbeats 1600000 in
theorem rule_any (w : World) (r : Nat) (ex : List Nat) (A : Option Addr) (n c : Nat) (toks : List Tk) (at_ : Nat) (vo : Value) (h : Rd w r A n c toks at_ vo) (hlv : LeavesAt w) (hgr : 4 < r) (hx : r ∉ ex) (hex : ∀ b ∈ ex, b < w.heap.size) (hsh : Short toks) (hat : at_ < n) :
    Calls Tryz.prog 35 #[.pointer (some ⟨r, 0, none⟩)] w fun e w' => RuleOut w r ex A n c toks (ruleP toks at_) e w' := by
  have HRP : Hid (ruleP toks at_ = match leafP toks at_ [1] with | none => (none, at_) | some n => if standsP toks (at_ + 1) [2, 3] = true then (match choicesP toks (at_ + 2) with | (none, at2) => (none, at2) | (some t, at2) => (some { name := n.text, place := placeP toks at_, more := standsP toks (at_ + 1) [3], tree := t }, at2)) else (none, at_ + 1)) := by
    show ruleP toks at_ = _
    unfold ruleP
    cases leafP toks at_ [1] <;> rfl
  generalize ruleP toks at_ = R at *
  have hrl := h.blk.lt
  have hlen := h.len
  have hmost := h.most
  have hb0 : Below w.heap.size w (w.alloc (.cells #[.string ⟨#[]⟩, .int .i64 0, .bool false, .int .u8 0, .string ⟨#[]⟩, .int .u8 0, .int .u8 0, .int .i64 0, .int .i64 0, .slice none 0 0] 27)) := (Below.refl _ _).alloc (Nat.le_refl _) _
  have hB0 : Blk (w.alloc (.cells #[.string ⟨#[]⟩, .int .i64 0, .bool false, .int .u8 0, .string ⟨#[]⟩, .int .u8 0, .int .u8 0, .int .i64 0, .int .i64 0, .slice none 0 0] 27)) w.heap.size 27 #[.string ⟨#[]⟩, .int .i64 0, .bool false, .int .u8 0, .string ⟨#[]⟩, .int .u8 0, .int .u8 0, .int .i64 0, .int .i64 0, .slice none 0 0] := Blk.new _ _ _
  have HPL := Lib.hid (place_any _ r A n c toks at_ vo (h.later hb0) (by omega))
  generalize placeP toks at_ = PL at *
  have H := Lib.hid h
  have HLV := Lib.hid hlv
  have HX := Lib.hid hx
  have HEX := Lib.hid hex
  have HSH := Lib.hid hsh
  have HLEN := Lib.hid hlen
  have HLT := Lib.hid (fun t (ht : leafP toks at_ [1] = some t) => leafP_tree ht hsh)
  have HLF := Lib.hid (fun (W' : World) (hrd : Rd W' r A n c toks at_ vo) (hl : LeavesAt W') => leaf_any (W'.alloc (.cells #[.int .u8 1] 5)) r A n c toks at_ vo (hrd.later ((Below.refl _ _).alloc (Nat.le_refl _) _)) (hl.below ((Below.refl _ _).alloc (Nat.le_refl _) _) hl.lt) hgr hsh W'.heap.size 1 [1] (kinds_new W' [1] #[.int .u8 1] rfl 5) (by simp) (fun k hk => by simp at hk; exact .inl hk))
  clear h hlv hx hex hsh hlen
  go_enter Tryz.func35, Tryz.ntmps35
  go_wp2_with fail
  refine HPL.out.mono ?_
  rintro e w1 ⟨rfl, hb1⟩
  have hbw1 : Below w.heap.size w w1 := hb0.trans (hb1.mono hb0.size)
  have hB1 := hB0.below hb1 hB0.lt
  have HB1 := Lib.hid hB1
  have HBW1 := Lib.hid hbw1
  have hrd1 := H.out.later hbw1
  have hlv1 := HLV.out.below hbw1 HLV.out.lt
  have HRD1 := Lib.hid hrd1
  have HLV1 := Lib.hid hlv1
  have hz1 := hbw1.size
  have hBlt1 := hB1.lt
  clear hb0 hB0 hb1 hB1 hbw1 HPL hrd1 hlv1
  have hR := HRP.out
  clear HRP
  generalize leafP toks at_ [1] = LP at *
  cases LP with
  | none =>
    have HR2 : Hid (R = (none, at_)) := hR
    clear hR
    rw [show leafV none = .tuple #[.agg #[.int .u8 0, .string ⟨#[]⟩, .int .u8 0, .int .u8 0, .int .i64 0, .int .i64 0, .slice none 0 0], .bool false] from rfl] at HLF
    go_wp2_with fail
    refine (HLF.out w1 HRD1.out HLV1.out).mono ?_
    rintro e w2 ⟨rfl, hrd2, ho2⟩
    have ho12 : Only r w1 w2 := (Only.of_below ((Below.refl _ _).alloc (Nat.le_refl _) _)).trans ho2
    have hB2 : Blk w2 w.heap.size 27 #[.string ⟨#[]⟩, .int .i64 0, .bool false, .int .u8 0, .string ⟨#[]⟩, .int .u8 0, .int .u8 0, .int .i64 0, .int .i64 0, .slice none 0 0] := (ho12.block _ HB1.out.lt (fun e => by have := Option.some.inj e; omega)).trans HB1.out
    have hcB := hB2.cell
    have hfB := hB2.frozen
    have hBlt := hB2.lt
    have how2 : Only r w w2 := (Only.of_below HBW1.out).trans ho12
    have HRD2 := Lib.hid hrd2
    have HOW := Lib.hid how2
    clear hB2 ho2 ho12 how2 hrd2 HLF
    go_wp2
    refine bodyPost_ret (v := .tuple #[ruleV noRule noKids, .bool false]) ?_ rfl ?_
    · simp [results, Tryz.results35, go_sem, hcB, hBlt]
      rfl
    · have hO := ruleOut_none (ex := ex) HR2.out HRD2.out HOW.out hrl
      have hO2 := hO.later_none HR2.out ((Below.refl _ _).alloc (Nat.le_refl _) (.cells #[.int .u8 0, .string ⟨#[]⟩, .int .u8 0, .int .u8 0, .int .i64 0, .int .i64 0, .slice none 0 0] 25))
      unfold put10 at hO2
      exact hO2
  | some nm =>
    have htk := HLT.out nm rfl
    rw [show leafV (some nm) = .tuple #[.agg #[.int .u8 nm.kind, .string (bs nm.text), .int .u8 nm.lo, .int .u8 nm.hi, .int .i64 nm.mn, .int .i64 nm.mx, .slice none 0 0], .bool true] from rfl] at HLF
    rw [show leafTo at_ (some nm) = at_ + 1 from rfl] at HLF
    simp only at hR
    have hS23 : ∀ q, standsP toks (at_ + 1) [2, 3] = q → R = if q = true then (match choicesP toks (at_ + 2) with | (none, at2) => (none, at2) | (some t, at2) => (some { name := nm.text, place := PL, more := standsP toks (at_ + 1) [3], tree := t }, at2)) else (none, at_ + 1) := fun q hq => by rw [← hq]; exact hR
    have HS23 := Lib.hid hS23
    have HSTD := Lib.hid (fun (W' : World) (v2 : Value) (hrd : Rd W' r A n c toks (at_ + 1) v2) q hq => stands_at _ r A n c toks (at_ + 1) v2 (hrd.later ((Below.refl W'.heap.size W').alloc (Nat.le_refl _) (.cells #[.int .u8 2, .int .u8 3] 5))) W'.heap.size 2 2 [2, 3] (kinds_new W' [2, 3] #[.int .u8 2, .int .u8 3] rfl 5) rfl (by omega) q hq)
    have HSTM := Lib.hid (fun (W' : World) (v2 : Value) (hrd : Rd W' r A n c toks (at_ + 1) v2) => stands_at _ r A n c toks (at_ + 1) v2 (hrd.later ((Below.refl W'.heap.size W').alloc (Nat.le_refl _) (.cells #[.int .u8 3] 5))) W'.heap.size 1 1 [3] (kinds_new W' [3] #[.int .u8 3] rfl 5) rfl (by omega) _ rfl)
    have HCH := Lib.hid (fun (W' : World) (v2 : Value) (ex' : List Nat) (hrd : Rd W' r A n c toks (at_ + 2) v2) hl hx' hex' => choices_any W' r ex' A n c toks (at_ + 2) v2 hrd hl hgr hx' hex' HSH.out)
    have HLT2 := Lib.hid (fun (q : Bool) (ks : List Int) (hq : standsP toks (at_ + 1) ks = true) => standsP_lt hq)
    clear hR hS23
    generalize standsP toks (at_ + 1) [3] = mo at *
    go_wp2_with fail
    refine (HLF.out w1 HRD1.out HLV1.out).mono ?_
    rintro e w2 ⟨rfl, hrd2, ho2⟩
    have ho12 : Only r w1 w2 := (Only.of_below ((Below.refl _ _).alloc (Nat.le_refl _) _)).trans ho2
    have hB2 : Blk w2 w.heap.size 27 #[.string ⟨#[]⟩, .int .i64 0, .bool false, .int .u8 0, .string ⟨#[]⟩, .int .u8 0, .int .u8 0, .int .i64 0, .int .i64 0, .slice none 0 0] := (ho12.block _ HB1.out.lt (fun e => by have := Option.some.inj e; omega)).trans HB1.out
    have how2 : Only r w w2 := (Only.of_below HBW1.out).trans ho12
    -- the name in a block of its own
    have hb3 : Below w2.heap.size w2 (w2.alloc (.cells #[.int .u8 nm.kind, .string (bs nm.text), .int .u8 nm.lo, .int .u8 nm.hi, .int .i64 nm.mn, .int .i64 nm.mx, .slice none 0 0] 25)) := (Below.refl _ _).alloc (Nat.le_refl _) _
    have hrd3 := hrd2.later hb3
    have hB3 := hB2.below hb3 hB2.lt
    have hN3 : Blk (w2.alloc (.cells #[.int .u8 nm.kind, .string (bs nm.text), .int .u8 nm.lo, .int .u8 nm.hi, .int .i64 nm.mn, .int .i64 nm.mx, .slice none 0 0] 25)) w2.heap.size 25 #[.int .u8 nm.kind, .string (bs nm.text), .int .u8 nm.lo, .int .u8 nm.hi, .int .i64 nm.mn, .int .i64 nm.mx, .slice none 0 0] := Blk.new _ _ _
    have how3 := how2.trans (Only.of_below hb3)
    have hR0lt := hB2.lt
    have hrl2 := hrd2.blk.lt
    have HRD3 := Lib.hid hrd3
    have HB3 := Lib.hid hB3
    have HN3 := Lib.hid hN3
    have HOW3 := Lib.hid how3
    have hT5 : w.heap.size < w2.heap.size := hR0lt
    clear hb3 hrd3 hB3 hN3 how3 hrd2 hB2 ho2 ho12 how2 HLF HRD1 HLV1 HB1 HBW1
    have HSTQ := Lib.hid (fun q hq => HSTD.out (w2.alloc (.cells #[.int .u8 nm.kind, .string (bs nm.text), .int .u8 nm.lo, .int .u8 nm.hi, .int .i64 nm.mn, .int .i64 nm.mx, .slice none 0 0] 25)) vo HRD3.out q hq)
    rw [show (w2.alloc (.cells #[.int .u8 nm.kind, .string (bs nm.text), .int .u8 nm.lo, .int .u8 nm.hi, .int .i64 nm.mn, .int .i64 nm.mx, .slice none 0 0] 25)).heap.size = w2.heap.size + 1 from by simp] at HSTQ
    clear HSTD
    go_wp2_with fail
    generalize w2.alloc (.cells #[.int .u8 nm.kind, .string (bs nm.text), .int .u8 nm.lo, .int .u8 nm.hi, .int .i64 nm.mn, .int .i64 nm.mx, .slice none 0 0] 25) = W3 at *
    generalize w2.heap.size = T5 at *
    cases hq : standsP toks (at_ + 1) [2, 3] with
    | false =>
      have HR2 : Hid (R = (none, at_ + 1)) := HS23.out false hq
      have HST := Lib.hid (HSTQ.out false hq)
      clear HS23 HSTQ HSTM HCH hq
      refine HST.out.mono ?_
      rintro e w4 ⟨rfl, m4, rfl⟩
      have hb4 : Below W3.heap.size W3 ((W3.alloc (.cells #[.int .u8 2, .int .u8 3] 5)).drewN m4) := below_drewN ((Below.refl _ _).alloc (Nat.le_refl _) _) _
      have HRD4 := Lib.hid (HRD3.out.later hb4)
      have HOW4 := Lib.hid (HOW3.out.trans (Only.of_below hb4))
      have hB4 := HB3.out.below hb4 HB3.out.lt
      generalize (W3.alloc (.cells #[.int .u8 2, .int .u8 3] 5)).drewN m4 = W4 at *
      have hcB := hB4.cell
      have hfB := hB4.frozen
      have hBlt := hB4.lt
      clear hB4 hb4
      go_wp2
      refine bodyPost_ret (v := .tuple #[ruleV noRule noKids, .bool false]) ?_ rfl ?_
      · simp [results, Tryz.results35, go_sem, hcB]
        rfl
      · have hO := ruleOut_none (ex := ex) HR2.out HRD4.out HOW4.out hrl
        unfold put10 at hO
        exact hO
    | true =>
      have hlt1 : at_ + 1 < n := by have := HLT2.out true [2, 3] hq; rw [HLEN.out] at this; exact this
      have HR3 : Hid (R = (match choicesP toks (at_ + 2) with | (none, at2) => (none, at2) | (some t, at2) => (some { name := nm.text, place := PL, more := mo, tree := t }, at2))) := HS23.out true hq
      have HST := Lib.hid (HSTQ.out true hq)
      clear HS23 HSTQ hq HLT2
      refine HST.out.mono ?_
      rintro e w4 ⟨rfl, m4, rfl⟩
      have hb4 : Below W3.heap.size W3 ((W3.alloc (.cells #[.int .u8 2, .int .u8 3] 5)).drewN m4) := below_drewN ((Below.refl _ _).alloc (Nat.le_refl _) _) _
      have HRD4 := Lib.hid (HRD3.out.later hb4)
      have HOW4 := Lib.hid (HOW3.out.trans (Only.of_below hb4))
      have HB4 := Lib.hid (HB3.out.below hb4 HB3.out.lt)
      have HN4 := Lib.hid (HN3.out.below hb4 HN3.out.lt)
      generalize (W3.alloc (.cells #[.int .u8 2, .int .u8 3] 5)).drewN m4 = W4 at *
      clear hb4 HRD3 HOW3 HB3 HN3 HST
      go_wp2_with fail
      refine (HSTM.out W4 vo HRD4.out).mono ?_
      rintro e w5 ⟨rfl, m5, rfl⟩
      have hb5 : Below W4.heap.size W4 ((W4.alloc (.cells #[.int .u8 3] 5)).drewN m5) := below_drewN ((Below.refl _ _).alloc (Nat.le_refl _) _) _
      have hrd5 := HRD4.out.later hb5
      have how5 := HOW4.out.trans (Only.of_below hb5)
      have hB5 := HB4.out.below hb5 HB4.out.lt
      have hN5 := HN4.out.below hb5 HN4.out.lt
      generalize (W4.alloc (.cells #[.int .u8 3] 5)).drewN m5 = W5 at *
      clear hb5 HRD4 HOW4 HB4 HN4 HSTM
      have hcr5 := hrd5.blk.cell
      have hfr5 := hrd5.blk.frozen
      have ho6 : Only r W5 (W5.setCell ⟨r, 1, none⟩ (.int .i64 ((at_ : Int) + 1 + 1))) := (Only.refl r W5).set 1 _
      have hrd6 : Rd (W5.setCell ⟨r, 1, none⟩ (.int .i64 ((at_ : Int) + 1 + 1))) r A n c toks (at_ + 2) vo := by
        refine hrd5.to ho6 ?_ (by omega)
        have := hrd5.blk.set_ 1 (.int .i64 ((at_ : Int) + 1 + 1))
        rw [show ((at_ + 2 : Nat) : Int) = (at_ : Int) + 1 + 1 from by omega]
        exact this
      have how6 := how5.trans ho6
      have hlv6 := HLV.out.only how6 hgr
      have hB6 := hB5.other (p := ⟨r, 1, none⟩) (by simp only; omega) (.int .i64 ((at_ : Int) + 1 + 1))
      have hN6 := hN5.other (p := ⟨r, 1, none⟩) (by simp only; omega) (.int .i64 ((at_ : Int) + 1 + 1))
      have HCH6 := Lib.hid (HCH.out _ vo (w.heap.size :: T5 :: ex) hrd6 hlv6 (fun hin => by
        rcases List.mem_cons.1 hin with e | hin
        · omega
        · rcases List.mem_cons.1 hin with e | hin
          · omega
          · exact HX.out hin) (fun b hin => by
        rcases List.mem_cons.1 hin with e | hin
        · rw [e]; exact hB6.lt
        · rcases List.mem_cons.1 hin with e | hin
          · rw [e]; exact hN6.lt
          · have := HEX.out b hin; have := how6.size; omega))
      have HB6 := Lib.hid hB6
      have HN6 := Lib.hid hN6
      have HOW6 := Lib.hid how6
      clear HCH hB6 hN6 hrd6 hlv6 how6 how5 hB5 hN5 hrd5 ho6
      have hR4 := HR3.out
      clear HR3
      generalize choicesP toks (at_ + 2) = CP at *
      obtain ⟨o, at2⟩ := CP
      go_wp2_with fail
      refine HCH6.out.mono ?_
      rintro e w7 ⟨⟨v7, hrd7⟩, ho7, hval⟩
      have hrd7' : Rd w7 r A n c toks at2 v7 := hrd7
      have hB7 := (ho7.block w.heap.size HB6.out.lt (fun e => by have := Option.some.inj e; omega)).trans HB6.out
      have hB7 : Blk w7 w.heap.size 27 #[.string ⟨#[]⟩, .int .i64 0, .bool false, .int .u8 0, .string ⟨#[]⟩, .int .u8 0, .int .u8 0, .int .i64 0, .int .i64 0, .slice none 0 0] := hB7
      have hN7 : Blk w7 T5 25 #[.int .u8 nm.kind, .string (bs nm.text), .int .u8 nm.lo, .int .u8 nm.hi, .int .i64 nm.mn, .int .i64 nm.mx, .slice none 0 0] := (ho7.block T5 HN6.out.lt (fun e => by have := Option.some.inj e; omega)).trans HN6.out
      have how7 := HOW6.out.trans ho7
      have hcB := hB7.cell
      have hfB := hB7.frozen
      have hBlt := hB7.lt
      have hcN := hN7.cell
      have hNlt := hN7.lt
      have HRD7 := Lib.hid hrd7'
      have HOW7 := Lib.hid how7
      clear hcr5 hfr5 hrd7 hrd7' ho7 how7 hB7 hN7 HB6 HN6 HOW6 HCH6
      cases o with
      | none =>
        have HR5 : Hid (R = (none, at2)) := hR4
        have hval' : e = .returned (.tuple #[.agg #[.int .u8 0, .string ⟨#[]⟩, .int .u8 0, .int .u8 0, .int .i64 0, .int .i64 0, .slice none 0 0], .bool false]) := hval
        subst hval'
        clear hR4 hval
        go_wp2
        refine bodyPost_ret (v := .tuple #[ruleV noRule noKids, .bool false]) ?_ rfl ?_
        · simp [results, Tryz.results35, go_sem, hcB, hBlt]
          rfl
        · have hO := ruleOut_none (ex := ex) HR5.out HRD7.out HOW7.out hrl
          have hO2 := hO.later_none HR5.out ((Below.refl _ _).alloc (Nat.le_refl _) (.cells #[.int .u8 0, .string ⟨#[]⟩, .int .u8 0, .int .u8 0, .int .i64 0, .int .i64 0, .slice none 0 0] 25))
          unfold put10 at hO2
          exact hO2
      | some t =>
        have HR5 : Hid (R = (some { name := nm.text, place := PL, more := mo, tree := t }, at2)) := hR4
        obtain ⟨sl, he, hk7, ht7⟩ := hval
        obtain ⟨sp, sc, rfl, _⟩ := hk7.form
        generalize t.kids.length = sn at *
        have he' : e = .returned (.tuple #[.agg #[.int .u8 t.kind, .string (bs t.text), .int .u8 t.lo, .int .u8 t.hi, .int .i64 t.mn, .int .i64 t.mx, .slice sp sn sc], .bool true]) := he
        subst he'
        have HK7 := Lib.hid hk7
        clear hR4 he hk7
        go_wp2
        have hO : RuleOut w r ex A n c toks R (.returned (.tuple #[ruleV { name := nm.text, place := PL, more := mo, tree := t } (.slice sp sn sc), .bool true])) ((put10 w7 w.heap.size { name := nm.text, place := PL, more := mo, tree := t } (.slice sp sn sc)).alloc (.cells #[.int .u8 t.kind, .string (bs t.text), .int .u8 t.lo, .int .u8 t.hi, .int .i64 t.mn, .int .i64 t.mx, .slice sp sn sc] 25)) := by
          have hal : Below (put10 w7 w.heap.size { name := nm.text, place := PL, more := mo, tree := t } (.slice sp sn sc)).heap.size (put10 w7 w.heap.size { name := nm.text, place := PL, more := mo, tree := t } (.slice sp sn sc)) ((put10 w7 w.heap.size { name := nm.text, place := PL, more := mo, tree := t } (.slice sp sn sc)).alloc (.cells #[.int .u8 t.kind, .string (bs t.text), .int .u8 t.lo, .int .u8 t.hi, .int .i64 t.mn, .int .i64 t.mx, .slice sp sn sc] 25)) := (Below.refl _ _).alloc (Nat.le_refl _) _
          refine ⟨⟨v7, by rw [HR5.out]; exact (put10_rd HRD7.out hrl _ _).later hal⟩, (put10_of HOW7.out _ _).trans (Only.of_below hal), ?_⟩
          rw [HR5.out]
          refine ⟨_, rfl, KidsAt.same ?_ hal, ht7⟩
          refine HK7.out.later (by rw [put10_size]; exact Nat.le_refl _) (fun b hl hF => ⟨⟨fun hin => hF.1 (List.mem_cons.2 (.inr (List.mem_cons.2 (.inr hin)))), hF.2⟩, ?_⟩)
          exact (put10_only w7 w.heap.size _ _).block b hl (fun e => hF.1 (by rw [Option.some.inj e]; simp))
        unfold put10 at hO
        refine bodyPost_ret (v := .tuple #[ruleV { name := nm.text, place := PL, more := mo, tree := t } (.slice sp sn sc), .bool true]) ?_ rfl ?_
        · simp [results, Tryz.results35, go_sem, hcB, hBlt]
          rfl
        · exact hO
end Go.Proofs.YtgbipbjpeecooaaGreatDoor

/-
  The contract of abnf.Parse: what tokens are as rules is what parseP tells. Conditions: the tokens and the table of leaves lie in memory; at most 200000 tokens, of texts of at most 65536 bytes.
-/
namespace Go.Proofs.YtgbipbjpeecooaaGreatDoor
open Go.RowKit

theorem partF_ge (l : List Tk) : ∀ (f at_ : Nat) (tm : Tr) (st : List Grp), at_ ≤ (partF l f at_ tm st).2.1 := by
  intro f
  induction f with
  | zero => intro at_ tm st; exact Nat.le_refl _
  | succ f ih =>
    intro at_ tm st
    rw [partF]
    split
    · have h1 := ih (howP l (at_ + 1)).2 (howP l (at_ + 1)).1 (st ++ [openG l at_ tm])
      have h2 := (howP_tree l (at_ + 1)).2.2
      omega
    · split
      · exact Nat.le_refl _
      · exact Nat.le_succ _
theorem partP_ge (l : List Tk) (at_ : Nat) (st : List Grp) : at_ ≤ (partP l at_ st).2.1 := by
  have h1 := partF_ge l (l.length + 1) (howP l at_).2 (howP l at_).1 st
  have h2 := (howP_tree l at_).2.2
  unfold partP
  omega
theorem shutF_ge (l : List Tk) : ∀ (f at_ : Nat) (st : List Grp), at_ ≤ (shutF l f at_ st).2.1 := by
  intro f
  induction f with
  | zero => intro at_ st; exact Nat.le_refl _
  | succ f ih =>
    intro at_ st
    rw [shutF]
    split
    · split
      · exact Nat.le_succ _
      · have := ih (at_ + 1) (onTop (addG (wholeP (topG st))) st.dropLast)
        omega
    · exact Nat.le_refl _
theorem choicesF_ge (l : List Tk) : ∀ (f at_ : Nat) (st : List Grp), at_ ≤ (choicesF l f at_ st).2 := by
  intro f
  induction f with
  | zero => intro at_ st; exact Nat.le_refl _
  | succ f ih =>
    intro at_ st
    have h1 := partP_ge l at_ st
    cases hp : (partP l at_ st).1 with
    | false => rw [choicesF_no hp]; exact h1
    | true =>
      rw [choicesF_go hp]
      have h2 := shutF_ge l (l.length + 1) (partP l at_ st).2.1 (partP l at_ st).2.2
      have h3 : (partP l at_ st).2.1 ≤ (shutP l (partP l at_ st).2.1 (partP l at_ st).2.2).2.1 := h2
      generalize shutP l (partP l at_ st).2.1 (partP l at_ st).2.2 = SP at *
      obtain ⟨o, a, s⟩ := SP
      cases o with
      | some t => show at_ ≤ a; simp only at h3; omega
      | none =>
        simp only at h3
        show at_ ≤ (if standsP l a [4] = true then choicesF l f (a + 1) (onTop endRowP s) else choicesF l f a s).2
        split
        · have := ih (a + 1) (onTop endRowP s); omega
        · have := ih a s; omega
theorem ruleP_adv {l : List Tk} {at_ at2 : Nat} {x : Rl} (h : ruleP l at_ = (some x, at2)) : at_ + 2 ≤ at2 := by
  unfold ruleP at h
  cases hl : leafP l at_ [1] with
  | none => rw [hl] at h; cases h
  | some nm =>
    rw [hl] at h
    simp only at h
    split at h
    · have := choicesF_ge l (l.length + 1) (at_ + 2) [firstG]
      have h3 : at_ + 2 ≤ (choicesP l (at_ + 2)).2 := this
      generalize choicesP l (at_ + 2) = CP at *
      obtain ⟨o, a⟩ := CP
      cases o with
      | none => cases h
      | some t =>
        simp only [Prod.mk.injEq] at h
        simp only at h3
        omega
    · cases h
theorem parseF_end {l : List Tk} {f at_ : Nat} {acc : List Rl} (h : l.length ≤ at_) : parseF l f at_ acc = (acc, 0, 0) := by
  cases f with
  | zero => rfl
  | succ f => rw [parseF, if_pos h]
theorem parseF_none {l : List Tk} {f at_ at2 : Nat} {acc : List Rl} (h : at_ < l.length) (hr : ruleP l at_ = (none, at2)) : parseF l (f + 1) at_ acc = ([], placeP l at2, 20) := by
  rw [parseF, if_neg (by omega), hr]
theorem parseF_some {l : List Tk} {f at_ at2 : Nat} {acc : List Rl} {x : Rl} (h : at_ < l.length) (hr : ruleP l at_ = (some x, at2)) : parseF l (f + 1) at_ acc = if rightB x.tree = true then parseF l f at2 (acc ++ [x]) else ([], x.place, 21) := by
  rw [parseF, if_neg (by omega), hr]

/-- rules in a row, each with its tree's kids' slice -/
abbrev Rrow := List (Rl × Value)
def ruleCells (x : Rl) (sl : Value) : List Value := [.string (bs x.name), .int .i64 x.place, .bool x.more, .int .u8 x.tree.kind, .string (bs x.tree.text), .int .u8 x.tree.lo, .int .u8 x.tree.hi, .int .i64 x.tree.mn, .int .i64 x.tree.mx, sl]
def flatR (ps : Rrow) : List Value := ps.flatMap fun p => ruleCells p.1 p.2
theorem flatR_snoc (ps : Rrow) (p : Rl × Value) : flatR (ps ++ [p]) = flatR ps ++ ruleCells p.1 p.2 := by simp [flatR]
def RKids (w : World) (F : Nat → Prop) (ps : Rrow) : Prop := ∀ p ∈ ps, KidsAt w F p.1.tree.kids p.2 ∧ p.1.tree.text.length ≤ maxLen
/-- rules in memory of one's own -/
structure RulesAt (w : World) (base : Nat) (v : Value) (rules : List Rl) : Prop where
  ex : ∃ ps : Rrow, ps.map Prod.fst = rules ∧ w.ownsRow base 27 10 v ps.length (flatR ps) ∧ RKids w (· < w.heap.size) ps
def ParseOut (w : World) (R : List Rl × Int × Int) (e : Ending) (w' : World) : Prop :=
  ∃ v, e = .returned (.tuple #[v, .int .i64 R.2.1, .int .i64 R.2.2]) ∧ RulesAt w' w.heap.size v R.1 ∧ Below w.heap.size w w'
theorem Tryz.infoRule : (Tryz.prog.info? 27).map (fun i => (i.zero, i.size, i.bytes)) = some (some (.agg #[.string ⟨#[]⟩, .int .i64 0, .bool false, .int .u8 0, .string ⟨#[]⟩, .int .u8 0, .int .u8 0, .int .i64 0, .int .i64 0, .slice none 0 0]), 10, 104) := by kernel_rfl
end Go.Proofs.YtgbipbjpeecooaaGreatDoor

/-
  Plain facts on tokens: of a text's tokens places rise, and what they are stands there. No conditions.
-/
namespace Go.Proofs.YtgbipbjpeecooaaGreatDoor

def signs : List (Int × List UInt8) := [(2, [61]), (3, [61, 47]), (4, [47]), (5, [40]), (6, [41]), (7, [91]), (8, [93]), (11, [37]), (12, [37])]
/-- what stands at a token's place -/
def KindOk (t : Tk) (sg : List UInt8) : Prop :=
  (t.kind = 1 ∧ sg = t.text) ∨ (t.kind = 10 ∧ sg = 34 :: (t.text ++ [34])) ∨
  (t.kind = 9 ∧ (∃ c : UInt8, sg = [c] ∧ timesZ c.toNat = true) ∧ 0 ≤ t.mn ∧ t.mn ≤ 9999 ∧ -1 ≤ t.mx ∧ t.mx ≤ 9999 ∧ (0 ≤ t.mx → t.mn ≤ t.mx)) ∨ (t.kind, sg) ∈ signs
def PieceOk (p : Pc) (r : List UInt8) : Prop := (p.err = 0 → p.tok.kind ≠ 0 → ∃ sg, sg ≠ [] ∧ sg <+: r ∧ KindOk p.tok sg) ∧ (p.err ≠ 0 → p.bad < r.length)

theorem hasPrefix_iff {l t : List UInt8} (h : Lib.hasPrefix l t = true) : t <+: l := List.isPrefixOf_iff_prefix.1 h

theorem digit_bd {n : Int} (h : digitZ n = true) : 0 ≤ digitOfZ n ∧ digitOfZ n ≤ 9 := by
  unfold digitOfZ
  rw [if_pos h]
  simp only [digitZ, Bool.and_eq_true, decide_eq_true_eq] at h
  omega
def pow10 : Nat → Int
  | 0 => 1
  | k + 1 => pow10 k * 10
theorem number_digits : ∀ (l : List UInt8) (a : Int) (k : Nat), k ≤ spanZ digitZ l → 0 ≤ a → 0 ≤ numberFrom 10 a (l.take k) ∧ numberFrom 10 a (l.take k) + 1 ≤ (a + 1) * pow10 k := by
  intro l
  induction l with
  | nil => intro a k hk h0; have : k = 0 := by simpa [spanZ] using hk
           subst this; simp [numberFrom, pow10]; exact h0
  | cons c r ih =>
    intro a k hk h0
    cases k with
    | zero => simp [numberFrom, pow10]; exact h0
    | succ k =>
      simp only [spanZ] at hk
      by_cases hc : digitZ c.toNat = true
      · rw [if_pos hc] at hk
        have hd := digit_bd hc
        have := ih (a * 10 + digitOfZ c.toNat) k (by omega) (by omega)
        simp only [List.take_succ_cons, numberFrom, pow10]
        refine ⟨this.1, Int.le_trans this.2 ?_⟩
        have h10 : 0 ≤ pow10 k := by
          clear this hk ih
          induction k with
          | zero => decide
          | succ k ih => simp only [pow10]; omega
        have hx : a * 10 + digitOfZ c.toNat + 1 ≤ (a + 1) * 10 := by omega
        calc (a * 10 + digitOfZ c.toNat + 1) * pow10 k ≤ ((a + 1) * 10) * pow10 k := Int.mul_le_mul_of_nonneg_right hx h10
          _ = (a + 1) * (pow10 k * 10) := by rw [Int.mul_assoc, Int.mul_comm 10]
      · rw [if_neg hc] at hk; omega
theorem number4 (l : List UInt8) (k : Nat) (hk : k ≤ spanZ digitZ l) (h4 : k ≤ 4) : 0 ≤ numberZ 10 (l.take k) ∧ numberZ 10 (l.take k) ≤ 9999 := by
  have h := number_digits l 0 k hk (by omega)
  have hp : pow10 k ≤ 10000 := by
    clear h hk
    match k, h4 with
    | 0, _ => decide
    | 1, _ => decide
    | 2, _ => decide
    | 3, _ => decide
    | 4, _ => decide
  unfold numberZ
  omega

theorem pos_of_ne {l : List UInt8} (h : l ≠ []) : 0 < l.length := List.length_pos_iff.2 h
theorem first_prefix {l : List UInt8} (h : l ≠ []) : ∃ c : UInt8, [c] <+: l ∧ (c.toNat : Int) = byteZ l 0 := by
  cases l with
  | nil => exact absurd rfl h
  | cons c r => exact ⟨c, ⟨r, rfl⟩, rfl⟩
theorem times_bits (l : List UInt8) (hl : l ≠ []) (h : timesZ (byteZ l 0) = true) (least most : Int) (size : Nat) (h1 : 0 ≤ least) (h2 : least ≤ 9999) (h3 : -1 ≤ most) (h4 : most ≤ 9999) (h5 : 0 ≤ most → least ≤ most) : PieceOk (timesTok least most size) l := by
  obtain ⟨c, hc, hb⟩ := first_prefix hl
  exact ⟨fun _ _ => ⟨[c], by simp, hc, .inr (.inr (.inl ⟨rfl, ⟨c, rfl, by rw [hb]; exact h⟩, h1, h2, h3, h4, h5⟩))⟩, fun h => absurd rfl h⟩
theorem piece_err {p : Pc} {l : List UInt8} (he : p.err ≠ 0) (hb : p.bad < l.length) : PieceOk p l := ⟨fun h => absurd h he, fun _ => hb⟩
theorem piece_times (l : List UInt8) (hl : l ≠ []) (h : timesZ (byteZ l 0) = true) : PieceOk (timesP l) l := by
  have hle := spanZ_le digitZ l
  have hp := pos_of_ne hl
  unfold timesP
  split
  · exact piece_err (by decide) hp
  · rename_i h4
    have hn := number4 l (spanZ digitZ l) (Nat.le_refl _) (by omega)
    split
    · rename_i hst
      have hlt := standsB_lt hst
      have hle2 := spanZ_le digitZ (l.drop (spanZ digitZ l + 1))
      rw [List.length_drop] at hle2
      split
      · rename_i hm
        exact piece_err (by simp) (by show spanZ digitZ l + 1 < l.length; omega)
      · rename_i hm
        have hn2 := number4 (l.drop (spanZ digitZ l + 1)) _ (Nat.le_refl _) (by omega)
        split
        · split
          · exact piece_err (by decide) hp
          · exact times_bits l hl h _ _ _ (by omega) (by omega) (by omega) (by omega) (by omega)
        · exact times_bits l hl h _ _ _ (by omega) (by omega) (by omega) (by omega) (by omega)
    · exact times_bits l hl h _ _ _ (by omega) (by omega) (by omega) (by omega) (by omega)

theorem quote_prefix : ∀ (l : List UInt8) (i : Nat), quoteAt l = some i → (l.take i ++ [34]) <+: l := by
  intro l
  induction l with
  | nil => intro i h; cases h
  | cons c r ih =>
    intro i h
    rw [quoteAt] at h
    split at h
    · rename_i hc
      have hi : 0 = i := Option.some.inj h
      subst hi
      have : c = 34 := by
        have h2 : c.toNat = 34 := by omega
        exact UInt8.toNat_inj.1 h2
      subst this
      exact ⟨r, rfl⟩
    · split at h
      · cases h
      · cases hq : quoteAt r with
        | none => rw [hq] at h; cases h
        | some j =>
          rw [hq] at h
          have hi : j + 1 = i := Option.some.inj h
          subst hi
          obtain ⟨z, hz⟩ := ih j hq
          exact ⟨z, by simp only [List.take_succ_cons, List.cons_append]; rw [hz]⟩
theorem piece_chars (l : List UInt8) (h : Lib.hasPrefix l [34] = true) : PieceOk (charsP l) l := by
  obtain ⟨r, rfl⟩ := hasPrefix_iff h
  simp only [List.cons_append, List.nil_append]
  unfold charsP
  have hd : (34 :: r : List UInt8).drop 1 = r := rfl
  rw [hd]
  cases hq : quoteAt r with
  | none => exact piece_err (by simp [charsOf]) (by simp [charsOf])
  | some i =>
    refine ⟨fun _ _ => ⟨34 :: (r.take i ++ [34]), by simp, ?_, .inr (.inl ⟨rfl, rfl⟩)⟩, fun h => absurd rfl h⟩
    obtain ⟨z, hz⟩ := quote_prefix r i hq
    exact ⟨z, by simp only [List.cons_append]; rw [hz]⟩
theorem piece_values (l : List UInt8) (h : Lib.hasPrefix l [37] = true) : PieceOk (valuesP l) l := by
  have hpre := hasPrefix_iff h
  have hp : 0 < l.length := prefix_le h
  have hw : PieceOk wrongP l := piece_err (by decide) hp
  unfold valuesP
  cases hv : valueZ l 2 (baseZ l) with
  | none => exact hw
  | some ak =>
    obtain ⟨a, k⟩ := ak
    rw [valuesOf]
    split
    · cases hv2 : valueZ l (k + 1) (baseZ l) with
      | none => exact hw
      | some bk =>
        obtain ⟨b, k2⟩ := bk
        rw [rangeOf]
        split
        · exact hw
        · exact ⟨fun _ _ => ⟨[37], by simp, hpre, .inr (.inr (.inr (by simp [signs])))⟩, fun h => absurd rfl h⟩
    · cases hm : moreVals l (baseZ l) (l.length + 1) k [a] with
      | none => exact hw
      | some nk =>
        exact ⟨fun _ _ => ⟨[37], by simp, hpre, .inr (.inr (.inr (by simp [signs, bytesOf])))⟩, fun h => absurd rfl h⟩
def Tells (row : Row) : Prop := ∀ l, l ≠ [] → row.1 l = true → PieceOk (row.2 l) l
theorem tells_sign (kind : Int) (t : List UInt8) (ht : t ≠ []) (hs : (kind, t) ∈ signs) : Tells (signRow kind t) := fun _ _ h =>
  ⟨fun _ _ => ⟨t, ht, hasPrefix_iff h, .inr (.inr (.inr hs))⟩, fun h => absurd rfl h⟩
theorem tells_err (p : List UInt8 → Bool) (er : Nat) (h1 : er ≠ 0) : Tells (p, fun _ => { bad := 0, err := er }) := fun _ hl _ => piece_err h1 (pos_of_ne hl)
theorem tells_table : ∀ row ∈ table, Tells row := by
  intro row h
  simp only [table, List.mem_cons, List.not_mem_nil, or_false] at h
  rcases h with rfl | rfl | rfl | rfl | rfl | rfl | rfl | rfl | rfl | rfl | rfl | rfl | rfl | rfl | rfl
  · exact fun l _ _ => ⟨fun _ h => absurd rfl h, fun h => absurd rfl h⟩
  · exact fun l _ _ => ⟨fun _ h => absurd rfl h, fun h => absurd rfl h⟩
  · intro l hl h
    have hs := spanZ_pos namedZ l hl (named_of_letter h)
    refine ⟨fun _ _ => ⟨l.take (spanZ namedZ l), ?_, List.take_prefix _ _, .inl ⟨rfl, rfl⟩⟩, fun h => absurd rfl h⟩
    intro e
    have := congrArg List.length e
    rw [List.length_take, List.length_nil] at this
    have := pos_of_ne hl
    omega
  · exact tells_sign _ _ (by simp) (by simp [signs])
  · exact tells_sign _ _ (by simp) (by simp [signs])
  · exact tells_sign _ _ (by simp) (by simp [signs])
  · exact tells_sign _ _ (by simp) (by simp [signs])
  · exact tells_sign _ _ (by simp) (by simp [signs])
  · exact tells_sign _ _ (by simp) (by simp [signs])
  · exact tells_sign _ _ (by simp) (by simp [signs])
  · exact fun l hl h => piece_times l hl h
  · exact fun l _ h => piece_chars l h
  · exact fun l _ h => piece_values l h
  · exact tells_err _ _ (by decide)
  · exact tells_err _ _ (by decide)
theorem piece_pick (rows : List Row) (hr : ∀ row ∈ rows, Tells row) (l : List UInt8) (hl : l ≠ []) : PieceOk (pick rows l) l := by
  induction rows with
  | nil => exact piece_err (by simp [pick]) (pos_of_ne hl)
  | cons row rows ih =>
    obtain ⟨p, r⟩ := row
    rw [pick]
    split
    · exact hr (p, r) (by simp) l hl (by assumption)
    · exact ih fun row h => hr row (by simp [h])
theorem piece_read (l : List UInt8) (hl : l ≠ []) : PieceOk (readP l) l := piece_pick table tells_table l hl
theorem read_letter (l : List UInt8) (hl : l ≠ []) (h : letterZ (byteZ l 0) = true) : readP l = nameP l := by
  cases l with
  | nil => exact absurd rfl hl
  | cons c r =>
    rw [byteZ_cons] at h
    have hb : blankZ c.toNat = false := by
      simp only [letterZ, Bool.or_eq_true, Bool.and_eq_true, decide_eq_true_eq] at h
      simp only [blankZ, Bool.or_eq_false_iff, beq_eq_false_iff_ne]
      omega
    have hr : Lib.hasPrefix (c :: r) [59] = false := by
      simp only [Lib.hasPrefix, List.isPrefixOf, Bool.and_eq_false_iff, beq_eq_false_iff_ne]
      left
      intro e
      rw [← e] at h
      revert h
      decide
    unfold readP table
    rw [pick, if_neg (by rw [byteZ_cons, hb]; simp), pick, if_neg (by rw [hr]; simp), pick, if_pos (by rw [byteZ_cons]; exact h)]

/-- where the next token may be at the earliest, and whether it must be a name -/
def after (toks : List Tk) : Int × Bool :=
  match toks.getLast? with
  | none => (0, true)
  | some t => if t.kind = 13 then (t.place, true) else (t.place + 1, false)
def TokOk (l : List UInt8) (t : Tk) : Prop := ∃ p : Nat, t.place = p ∧ p ≤ l.length ∧ (t.kind = 13 ∨ ∃ sg, sg ≠ [] ∧ sg <+: l.drop p ∧ KindOk t sg)
def Rises (l : List UInt8) (toks : List Tk) : Prop := ∀ (i : Nat) (t : Tk), toks[i]? = some t → (after (toks.take i)).1 ≤ t.place ∧ ((after (toks.take i)).2 = true → t.kind = 1) ∧ TokOk l t

theorem after_snoc (toks : List Tk) (t : Tk) : after (toks ++ [t]) = if t.kind = 13 then (t.place, true) else (t.place + 1, false) := by simp [after]
theorem rises_nil (l : List UInt8) : Rises l [] := fun i t h => by simp at h
theorem rises_snoc {l : List UInt8} {toks : List Tk} {t : Tk} (h : Rises l toks) (h1 : (after toks).1 ≤ t.place) (h2 : (after toks).2 = true → t.kind = 1) (h3 : TokOk l t) : Rises l (toks ++ [t]) := by
  intro i u hu
  rcases Nat.lt_trichotomy i toks.length with hi | hi | hi
  · rw [List.getElem?_append_left hi] at hu
    rw [List.take_append_of_le_length (by omega)]
    exact h i u hu
  · subst hi
    rw [List.getElem?_append_right (Nat.le_refl _), Nat.sub_self] at hu
    have : t = u := by simpa using hu
    subst this
    rw [List.take_append_of_le_length (Nat.le_refl _), List.take_length]
    exact ⟨h1, h2, h3⟩
  · rw [List.getElem?_append_right (by omega)] at hu
    have : i - toks.length ≠ 0 := by omega
    obtain ⟨n, hn⟩ := Nat.exists_eq_succ_of_ne_zero this
    rw [hn] at hu
    simp at hu

theorem prefix_drop {x ln m : List UInt8} {a : Nat} (h1 : x <+: ln.drop a) (h2 : ln <+: m) (ha : a ≤ ln.length) : x <+: m.drop a := by
  obtain ⟨z, rfl⟩ := h2
  rw [List.drop_append_of_le_length ha]
  exact h1.trans (List.prefix_append _ _)

theorem tokens_rise (l ln : List UInt8) (start : Nat) (hln : ln <+: l.drop start) (hst : start ≤ l.length) : ∀ (f at_ : Nat) (toks : List Tk), ln.length < f + at_ → at_ ≤ ln.length → Rises l toks → (after toks).1 ≤ (start : Int) + at_ →
    ((after toks).2 = true → at_ = 0 ∧ ln ≠ [] ∧ letterZ (byteZ ln 0) = true) →
    ((tokensF ln start f at_ toks).2.2 = 0 → (tokensF ln start f at_ toks).2.1 = 0 ∧ Rises l (tokensF ln start f at_ toks).1 ∧ (after (tokensF ln start f at_ toks).1).1 ≤ (start : Int) + ln.length ∧ (after (tokensF ln start f at_ toks).1).2 = false) ∧
    ((tokensF ln start f at_ toks).2.2 ≠ 0 → (tokensF ln start f at_ toks).2.1 < start + ln.length) := by
  intro f
  induction f with
  | zero => intro at_ toks hf hat; omega
  | succ f ih =>
    intro at_ toks hf hat hR ha hnm
    by_cases hend : ln.length ≤ at_
    · rw [tokensF_end hend]
      refine ⟨fun _ => ⟨rfl, hR, by show (after toks).1 ≤ _; omega, ?_⟩, fun h => absurd rfl h⟩
      show (after toks).2 = false
      cases hb : (after toks).2 with
      | false => rfl
      | true =>
        obtain ⟨h0, hne, _⟩ := hnm hb
        have := pos_of_ne hne
        omega
    · have hlt : at_ < ln.length := by omega
      have hne := drop_ne hlt
      have hfit := fits_read _ hne
      have hpo := piece_read _ hne
      rw [Fits, List.length_drop] at hfit
      by_cases he : (readP (ln.drop at_)).err = 0
      · rw [tokensF_go hlt he]
        have hsz := hfit.2.1 he
        by_cases hk : (readP (ln.drop at_)).tok.kind ≠ 0
        · rw [if_pos hk]
          obtain ⟨sg, hsg, hpre, hkd⟩ := hpo.1 he hk
          have hkind13 : ({ (readP (ln.drop at_)).tok with place := (start : Int) + at_ } : Tk).kind ≠ 13 := by
            show (readP (ln.drop at_)).tok.kind ≠ 13
            rcases hkd with h | h | h | h
            · omega
            · omega
            · omega
            · simp only [signs, List.mem_cons, Prod.mk.injEq, List.not_mem_nil, or_false] at h
              omega
          refine ih _ _ (by omega) (by omega) (rises_snoc hR (by show (after toks).1 ≤ (start : Int) + at_; exact ha) ?_ ?_) ?_ ?_
          · intro hb
            obtain ⟨h0, hne2, hlet⟩ := hnm hb
            subst h0
            show (readP (ln.drop 0)).tok.kind = 1
            rw [List.drop_zero, read_letter ln hne2 hlet]
            rfl
          · refine ⟨start + at_, by simp, ?_, .inr ⟨sg, hsg, ?_, hkd⟩⟩
            · obtain ⟨z, hz⟩ := hln
              have := congrArg List.length hz
              rw [List.length_append, List.length_drop] at this
              omega
            · have := prefix_drop hpre hln (by omega)
              rwa [List.drop_drop] at this
          · rw [after_snoc, if_neg hkind13]
            show (start : Int) + at_ + 1 ≤ _
            omega
          · rw [after_snoc, if_neg hkind13]
            intro h
            cases h
        · rw [if_neg hk]
          refine ih _ _ (by omega) (by omega) hR (by omega) ?_
          intro hb
          obtain ⟨h0, hne2, hlet⟩ := hnm hb
          subst h0
          exfalso
          apply hk
          rw [List.drop_zero, read_letter ln hne2 hlet]
          simp [nameP]
      · rw [tokensF_err (by omega) hlt he]
        refine ⟨fun h => absurd h he, fun _ => ?_⟩
        have := hpo.2 he
        rw [List.length_drop] at this
        show start + at_ + _ < _
        omega

theorem cut_prefix (l : List UInt8) (k : Nat) : (cutP l k).1 <+: l.drop k := by
  unfold cutP
  split
  · exact List.prefix_refl _
  · unfold Lib.trimSuffix
    split
    · exact (List.take_prefix _ _).trans (List.take_prefix _ _)
    · exact List.take_prefix _ _

theorem idle_ne {l : List UInt8} (h : idleB l = false) : l ≠ [] := by
  intro e
  rw [e] at h
  cases h

theorem lex_rises (l : List UInt8) : ∀ (f k : Nat) (toks : List Tk) (o : Bool), l.length < f + k → k ≤ l.length → Rises l toks → (after toks).1 ≤ k → (o = false → toks = []) → (o = true → (after toks).2 = false) →
    ((lexF l f k toks o).2.2 = 0 → (lexF l f k toks o).2.1 = 0 ∧ Rises l (lexF l f k toks o).1 ∧ ((lexF l f k toks o).1 = [] ∨ ∃ ts, (lexF l f k toks o).1 = ts ++ [endTok l.length])) ∧
    ((lexF l f k toks o).2.2 ≠ 0 → (lexF l f k toks o).1 = [] ∧ (lexF l f k toks o).2.1 < l.length) := by
  intro f
  induction f with
  | zero => intro k toks o hf hk; omega
  | succ f ih =>
    intro k toks o hf hk hR ha ho1 ho2
    by_cases hend : l.length ≤ k
    · rw [lexF_end hend]
      refine ⟨fun _ => ⟨rfl, ?_⟩, fun h => absurd rfl h⟩
      unfold closed
      cases o with
      | false =>
        have := ho1 rfl
        subst this
        exact ⟨rises_nil l, .inl rfl⟩
      | true =>
        rw [if_pos rfl]
        refine ⟨rises_snoc hR (by show (after toks).1 ≤ (l.length : Int); omega) (fun h => by rw [ho2 rfl] at h; cases h) ⟨l.length, rfl, Nat.le_refl _, .inl rfl⟩, .inr ⟨toks, rfl⟩⟩
    · have hlt : k < l.length := by omega
      have hcb := cutP_bd l k hlt
      have hpre := cut_prefix l k
      have key : ∀ (L : Ln), lineP (cutP l k).1 k toks o = L → (L.err = 0 → Rises l L.toks ∧ (after L.toks).1 ≤ ((cutP l k).2 : Int) ∧ (L.opened = false → L.toks = []) ∧ (L.opened = true → (after L.toks).2 = false)) ∧ (L.err ≠ 0 → L.place < l.length) := by
        intro L hL
        generalize (cutP l k).1 = ln at *
        generalize (cutP l k).2 = nx at *
        unfold lineP at hL
        cases hid : idleB ln with
        | true =>
          rw [if_pos hid] at hL
          subst hL
          exact ⟨fun _ => ⟨hR, by show (after toks).1 ≤ _; omega, ho1, ho2⟩, fun h => absurd rfl h⟩
        | false =>
          have hne := idle_ne hid
          rw [if_neg (by simp [hid])] at hL
          cases hlet : letterZ (byteZ ln 0) with
          | true =>
            rw [if_pos hlet] at hL
            have hT := tokens_rise l ln k hpre (by omega) (ln.length + 1) 0 (if o = true then toks ++ [endTok k] else toks) (by omega) (by omega)
              (by
                cases o with
                | true => exact rises_snoc hR (by show (after toks).1 ≤ (k : Int); exact ha) (fun h => by rw [ho2 rfl] at h; cases h) ⟨k, rfl, by omega, .inl rfl⟩
                | false => exact hR)
              (by
                cases o with
                | true => rw [if_pos rfl, after_snoc, if_pos (by rfl)]; show (k : Int) ≤ _; omega
                | false => rw [if_neg (by simp)]; omega)
              (fun _ => ⟨rfl, hne, hlet⟩)
            subst hL
            refine ⟨fun he => ?_, fun he => ?_⟩
            · obtain ⟨_, h2, h3, h4⟩ := hT.1 he
              exact ⟨h2, (by show (after (tokensF ln k (ln.length + 1) 0 _).1).1 ≤ _; omega), (fun h => by cases h), fun _ => h4⟩
            · have := hT.2 he
              show (tokensP ln k _).2.1 < _
              unfold tokensP
              omega
          | false =>
            rw [if_neg (by simp [hlet])] at hL
            cases hbo : (blankZ (byteZ ln 0) && o) with
            | false =>
              rw [if_neg (by simp [hbo])] at hL
              subst hL
              exact ⟨(fun h => by cases h), fun _ => hlt⟩
            | true =>
              rw [if_pos hbo] at hL
              have hot : o = true := by
                cases o with
                | true => rfl
                | false => simp at hbo
              subst hot
              have hT := tokens_rise l ln k hpre (by omega) (ln.length + 1) 0 toks (by omega) (by omega) hR (by omega) (fun h => by rw [ho2 rfl] at h; cases h)
              subst hL
              refine ⟨fun he => ?_, fun he => ?_⟩
              · obtain ⟨_, h2, h3, h4⟩ := hT.1 he
                exact ⟨h2, (by show (after (tokensF ln k (ln.length + 1) 0 _).1).1 ≤ _; omega), (fun h => by cases h), fun _ => h4⟩
              · have := hT.2 he
                show (tokensP ln k _).2.1 < _
                unfold tokensP
                omega
      obtain ⟨k1, k2⟩ := key _ rfl
      by_cases he : (lineP (cutP l k).1 k toks o).err = 0
      · rw [lexF_go hlt he]
        obtain ⟨a1, a2, a3, a4⟩ := k1 he
        exact ih _ _ _ (by omega) (by omega) a1 a2 a3 a4
      · rw [lexF_err (by omega) hlt he]
        exact ⟨fun h => absurd h he, fun _ => ⟨rfl, k2 he⟩⟩

theorem tokens_len (ln : List UInt8) (start : Nat) : ∀ (f at_ : Nat) (toks : List Tk), at_ ≤ ln.length → (tokensF ln start f at_ toks).1.length ≤ toks.length + (ln.length - at_) := by
  intro f
  induction f with
  | zero => intro at_ toks _; show toks.length ≤ _; omega
  | succ f ih =>
    intro at_ toks hat
    by_cases hend : ln.length ≤ at_
    · rw [tokensF_end hend]; show toks.length ≤ _; omega
    · have hlt : at_ < ln.length := by omega
      have hfit := fits_read _ (drop_ne hlt)
      rw [Fits, List.length_drop] at hfit
      by_cases he : (readP (ln.drop at_)).err = 0
      · rw [tokensF_go hlt he]
        have hsz := hfit.2.1 he
        split
        · refine Nat.le_trans (ih _ _ (by omega)) ?_
          rw [List.length_append, List.length_singleton]
          omega
        · refine Nat.le_trans (ih _ _ (by omega)) ?_
          omega
      · rw [tokensF, if_neg (by omega), if_pos he]
        show toks.length ≤ _
        omega
theorem line_len (ln : List UInt8) (k : Nat) (toks : List Tk) (o : Bool) : (lineP ln k toks o).toks.length ≤ toks.length + 1 + ln.length := by
  have h := fun tk => tokens_len ln k (ln.length + 1) 0 tk (Nat.zero_le _)
  unfold lineP
  split
  · show toks.length ≤ _; omega
  · split
    · have := h (if o = true then toks ++ [endTok k] else toks)
      have e : (if o = true then toks ++ [endTok k] else toks).length ≤ toks.length + 1 := by
        split
        · simp
        · omega
      show (tokensF ln k (ln.length + 1) 0 _).1.length ≤ _
      omega
    · split
      · have := h toks
        show (tokensF ln k (ln.length + 1) 0 _).1.length ≤ _
        omega
      · show toks.length ≤ _; omega
theorem lexF_len (l : List UInt8) : ∀ (f k : Nat) (toks : List Tk) (o : Bool), k ≤ l.length → (lexF l f k toks o).1.length ≤ toks.length + 2 * (l.length - k) + 1 := by
  intro f
  have hcl : ∀ (toks : List Tk) (o : Bool), (closed l toks o).length ≤ toks.length + 1 := by
    intro toks o
    unfold closed
    split
    · simp
    · omega
  induction f with
  | zero => intro k toks o _; have := hcl toks o; show (closed l toks o).length ≤ _; omega
  | succ f ih =>
    intro k toks o hk
    by_cases hend : l.length ≤ k
    · rw [lexF_end hend]; have := hcl toks o; show (closed l toks o).length ≤ _; omega
    · have hlt : k < l.length := by omega
      have hcb := cutP_bd l k hlt
      have hl := line_len (cutP l k).1 k toks o
      by_cases he : (lineP (cutP l k).1 k toks o).err = 0
      · rw [lexF_go hlt he]
        have := ih (cutP l k).2 (lineP (cutP l k).1 k toks o).toks (lineP (cutP l k).1 k toks o).opened (by omega)
        omega
      · rw [lexF, if_neg (by omega), if_pos he]
        show 0 ≤ _
        omega
theorem lexP_len (l : List UInt8) : (lexP l).1.length ≤ 2 * l.length + 1 := by
  unfold lexP
  split
  · show 0 ≤ _; omega
  · have := lexF_len l (l.length + 1) 0 [] false (Nat.zero_le _)
    simpa using this

theorem lex_whole (l : List UInt8) (h : l.length ≤ 65536) :
    ((lexP l).2.2 = 0 → (lexP l).2.1 = 0 ∧ Rises l (lexP l).1 ∧ ((lexP l).1 = [] ∨ ∃ ts, (lexP l).1 = ts ++ [endTok l.length])) ∧ ((lexP l).2.2 ≠ 0 → (lexP l).1 = [] ∧ (lexP l).2.1 < l.length) := by
  unfold lexP
  rw [if_neg (by omega)]
  exact lex_rises l (l.length + 1) 0 [] false (by omega) (by omega) (rises_nil l) (by decide) (fun _ => rfl) (fun h => by cases h)
end Go.Proofs.YtgbipbjpeecooaaGreatDoor

/-
  Plain facts on the tokens of a text: fields that a token's kind does not name are zero, and texts are no longer than the text. No conditions.
-/
namespace Go.Proofs.YtgbipbjpeecooaaGreatDoor

def Ascii (l : List UInt8) : Prop := ∀ c ∈ l, c.toNat < 128
def Clean (t : Tk) : Prop := ((t.kind = 1 ∨ t.kind = 10 ∨ t.kind = 11) → t.mn = 0 ∧ t.mx = 0 ∧ t.lo = 0 ∧ t.hi = 0) ∧ (t.kind = 12 → t.text = [] ∧ t.mn = 0 ∧ t.mx = 0) ∧ (t.kind = 1 → Ascii t.text)
/-- clean, and no longer than so -/
def Fine (m : Nat) (t : Tk) : Prop := Clean t ∧ t.text.length ≤ m
theorem clean_sign {t : Tk} (h1 : t.kind ≠ 1) (h2 : t.kind ≠ 10) (h3 : t.kind ≠ 11) (h4 : t.kind ≠ 12) : Clean t :=
  ⟨fun h => by omega, fun h => absurd h h4, fun h => absurd h h1⟩
theorem fine_none (m : Nat) (p : Pc) (h : p.tok = {}) : Fine m p.tok := by
  rw [h]
  exact ⟨clean_sign (by decide) (by decide) (by decide) (by decide), Nat.zero_le _⟩
theorem span_all (p : Int → Bool) : ∀ (l : List UInt8), ∀ c ∈ l.take (spanZ p l), p c.toNat = true := by
  intro l
  induction l with
  | nil => intro c hc; simp at hc
  | cons a r ih =>
    intro c hc
    rw [spanZ] at hc
    split at hc
    · rename_i ha
      rw [List.take_succ_cons] at hc
      rcases List.mem_cons.1 hc with rfl | hc
      · exact ha
      · exact ih c hc
    · simp at hc
theorem byte_all {p : UInt8 → Prop} (h : ∀ n : Fin 256, p (UInt8.ofNat n.val)) (c : UInt8) : p c := by
  have := h ⟨c.toNat, c.toNat_lt⟩
  rw [UInt8.ofNat_toNat] at this
  exact this
theorem named_ascii (c : UInt8) : namedZ c.toNat = true → c.toNat < 128 := byte_all (p := fun c => namedZ c.toNat = true → c.toNat < 128) (by decide +kernel) c
theorem moreVals_len {l : List UInt8} {base : Int} (hb0 : 0 ≤ base) (hb1 : base ≤ 16) : ∀ (f k : Nat) (nums : List Int) (out : List Int) (k2 : Nat), moreVals l base f k nums = some (out, k2) → out.length + k ≤ nums.length + k2 := by
  intro f
  induction f with
  | zero => intro k nums out k2 h; cases h
  | succ f ih =>
    intro k nums out k2 h
    rw [moreVals] at h
    split at h
    · cases hv : valueZ l (k + 1) base with
      | none => rw [hv] at h; cases h
      | some vk =>
        obtain ⟨v, k3⟩ := vk
        rw [hv] at h
        have hb := valueZ_bd hb0 hb1 hv
        have := ih k3 _ out k2 h
        rw [List.length_append, List.length_singleton] at this
        omega
    · injection h with h
      injection h with h1 h2
      subst h1
      omega
theorem fine_times (l : List UInt8) : Fine l.length (timesP l).tok := by
  unfold timesP
  have ht : ∀ a b k, Fine l.length (timesTok a b k).tok := fun a b k => ⟨clean_sign (by simp [timesTok]) (by simp [timesTok]) (by simp [timesTok]) (by simp [timesTok]), Nat.zero_le _⟩
  split
  · exact fine_none _ _ rfl
  · split
    · split
      · exact fine_none _ _ rfl
      · split
        · split
          · exact fine_none _ _ rfl
          · exact ht _ _ _
        · exact ht _ _ _
    · exact ht _ _ _
theorem fine_chars (l : List UInt8) : Fine l.length (charsP l).tok := by
  unfold charsP
  cases quoteAt (l.drop 1) with
  | none => exact fine_none _ _ rfl
  | some i =>
    refine ⟨⟨fun _ => ⟨rfl, rfl, rfl, rfl⟩, fun h => absurd h (by show ¬ (10 : Int) = 12; omega), fun h => absurd h (by show ¬ (10 : Int) = 1; omega)⟩, ?_⟩
    show ((l.drop 1).take i).length ≤ _
    rw [List.length_take, List.length_drop]
    omega
theorem fine_values (l : List UInt8) : Fine l.length (valuesP l).tok := by
  obtain ⟨hb0, hb1⟩ := baseZ_bd l
  unfold valuesP
  cases hv : valueZ l 2 (baseZ l) with
  | none => exact fine_none _ _ rfl
  | some ak =>
    obtain ⟨a, k⟩ := ak
    have hb := valueZ_bd hb0 hb1 hv
    rw [valuesOf]
    split
    · cases hv2 : valueZ l (k + 1) (baseZ l) with
      | none => exact fine_none _ _ rfl
      | some bk =>
        obtain ⟨b, k2⟩ := bk
        rw [rangeOf]
        split
        · exact fine_none _ _ rfl
        · exact ⟨⟨fun h => absurd h (by show ¬ ((12 : Int) = 1 ∨ (12 : Int) = 10 ∨ (12 : Int) = 11); omega), fun _ => ⟨rfl, rfl, rfl⟩, fun h => absurd h (by show ¬ (12 : Int) = 1; omega)⟩, Nat.zero_le _⟩
    · cases hm : moreVals l (baseZ l) (l.length + 1) k [a] with
      | none => exact fine_none _ _ rfl
      | some nk =>
        obtain ⟨nums, k2⟩ := nk
        have hm1 := moreVals_len hb0 hb1 _ _ _ _ _ hm
        have hm2 := moreVals_bd hb0 hb1 _ _ _ _ _ hb.2.2.2 hm
        refine ⟨⟨fun _ => ⟨rfl, rfl, rfl, rfl⟩, fun h => absurd h (by show ¬ (11 : Int) = 12; omega), fun h => absurd h (by show ¬ (11 : Int) = 1; omega)⟩, ?_⟩
        show (numsText nums).length ≤ _
        rw [numsText, List.length_map]
        rw [List.length_singleton] at hm1
        omega
theorem fine_sign (kind : Int) (t : List UInt8) (l : List UInt8) (h1 : kind ≠ 1) (h2 : kind ≠ 10) (h3 : kind ≠ 11) (h4 : kind ≠ 12) : Fine l.length ((signRow kind t).2 l).tok := ⟨clean_sign h1 h2 h3 h4, Nat.zero_le _⟩
theorem fine_table (l : List UInt8) : ∀ row ∈ table, Fine l.length (row.2 l).tok := by
  intro row h
  simp only [table, List.mem_cons, List.not_mem_nil, or_false] at h
  rcases h with rfl | rfl | rfl | rfl | rfl | rfl | rfl | rfl | rfl | rfl | rfl | rfl | rfl | rfl | rfl
  · exact fine_none _ _ rfl
  · exact fine_none _ _ rfl
  · refine ⟨⟨fun _ => ⟨rfl, rfl, rfl, rfl⟩, fun h => absurd h (by show ¬ (1 : Int) = 12; omega), fun _ => fun c hc => named_ascii c (span_all namedZ l c hc)⟩, ?_⟩
    show (l.take _).length ≤ _
    rw [List.length_take]
    omega
  · exact fine_sign _ _ l (by decide) (by decide) (by decide) (by decide)
  · exact fine_sign _ _ l (by decide) (by decide) (by decide) (by decide)
  · exact fine_sign _ _ l (by decide) (by decide) (by decide) (by decide)
  · exact fine_sign _ _ l (by decide) (by decide) (by decide) (by decide)
  · exact fine_sign _ _ l (by decide) (by decide) (by decide) (by decide)
  · exact fine_sign _ _ l (by decide) (by decide) (by decide) (by decide)
  · exact fine_sign _ _ l (by decide) (by decide) (by decide) (by decide)
  · exact fine_times l
  · exact fine_chars l
  · exact fine_values l
  · exact fine_none _ _ rfl
  · exact fine_none _ _ rfl
theorem fine_pick (l : List UInt8) (rows : List Row) (hr : ∀ row ∈ rows, Fine l.length (row.2 l).tok) : Fine l.length (pick rows l).tok := by
  induction rows with
  | nil => exact fine_none _ _ rfl
  | cons row rows ih =>
    obtain ⟨p, r⟩ := row
    rw [pick]
    split
    · exact hr (p, r) (by simp)
    · exact ih fun row h => hr row (by simp [h])
theorem fine_read (l : List UInt8) : Fine l.length (readP l).tok := fine_pick l table (fine_table l)

theorem Fine.mono {m n : Nat} {t : Tk} (h : Fine m t) (hm : m ≤ n) : Fine n t := ⟨h.1, Nat.le_trans h.2 hm⟩
def AllFine (m : Nat) (toks : List Tk) : Prop := ∀ t ∈ toks, Fine m t
theorem AllFine.snoc {m : Nat} {toks : List Tk} {t : Tk} (h : AllFine m toks) (ht : Fine m t) : AllFine m (toks ++ [t]) := fun x hx => by
  rcases List.mem_append.1 hx with hx | hx
  · exact h x hx
  · rw [List.mem_singleton] at hx; subst hx; exact ht
theorem fine_end (m k : Nat) : Fine m (endTok k) := ⟨clean_sign (by simp [endTok]) (by simp [endTok]) (by simp [endTok]) (by simp [endTok]), Nat.zero_le _⟩
theorem tokens_fine (ln : List UInt8) (start m : Nat) (hm : ln.length ≤ m) : ∀ (f at_ : Nat) (toks : List Tk), AllFine m toks → AllFine m (tokensF ln start f at_ toks).1 := by
  intro f
  induction f with
  | zero => intro at_ toks h; exact h
  | succ f ih =>
    intro at_ toks h
    rw [tokensF]
    split
    · exact h
    · split
      · exact h
      · refine ih _ _ ?_
        have hr : Fine m (readP (ln.drop at_)).tok := (fine_read (ln.drop at_)).mono (by rw [List.length_drop]; omega)
        split
        · exact h.snoc hr
        · exact h
theorem line_fine (ln : List UInt8) (k m : Nat) (hm : ln.length ≤ m) (toks : List Tk) (o : Bool) (h : AllFine m toks) : AllFine m (lineP ln k toks o).toks := by
  unfold lineP
  split
  · exact h
  · split
    · refine tokens_fine ln k m hm _ _ _ ?_
      split
      · exact h.snoc (fine_end _ _)
      · exact h
    · split
      · exact tokens_fine ln k m hm _ _ _ h
      · exact h
theorem closed_fine (l : List UInt8) (m : Nat) (toks : List Tk) (o : Bool) (h : AllFine m toks) : AllFine m (closed l toks o) := by
  unfold closed
  split
  · exact h.snoc (fine_end _ _)
  · exact h
theorem lexF_fine (l : List UInt8) : ∀ (f k : Nat) (toks : List Tk) (o : Bool), AllFine l.length toks → AllFine l.length (lexF l f k toks o).1 := by
  intro f
  induction f with
  | zero => intro k toks o h; exact closed_fine l _ _ _ h
  | succ f ih =>
    intro k toks o h
    rw [lexF]
    split
    · exact closed_fine l _ _ _ h
    · rename_i hk
      split
      · exact fun t ht => by cases ht
      · have := cutP_bd l k (by omega)
        exact ih _ _ _ (line_fine _ _ _ (by omega) _ _ h)
theorem lex_fine (l : List UInt8) : AllFine l.length (lexP l).1 := by
  unfold lexP
  split
  · exact fun t ht => by cases ht
  · exact lexF_fine l _ _ _ _ (fun t ht => by cases ht)
end Go.Proofs.YtgbipbjpeecooaaGreatDoor

/-
  The leaves of what is parsed are its tokens' names, chars, bytes and ranges, in plain terms. No conditions.
-/
namespace Go.Proofs.YtgbipbjpeecooaaGreatDoor

def wants (k : Int) : Bool := k == 1 || k == 10 || k == 11 || k == 12
def wantT (t : Tk) : Tk := { t with place := 0, text := if t.kind = 1 then t.text.map smallC else t.text }
def wantL (l : List Tk) : List Tk := (l.filter fun t => wants t.kind).map wantT
theorem wantL_append (a b : List Tk) : wantL (a ++ b) = wantL a ++ wantL b := by simp [wantL]
theorem wantL_no {t : Tk} (h : wants t.kind = false) : wantL [t] = [] := by simp [wantL, h]
theorem wantL_yes {t : Tk} (h : wants t.kind = true) : wantL [t] = [wantT t] := by simp [wantL, h]
/-- of the tokens ahead of a place -/
def wantTo (l : List Tk) (at_ : Nat) : List Tk := wantL (l.take at_)
theorem wantTo_succ {l : List Tk} {at_ : Nat} {t : Tk} (h : l[at_]? = some t) : wantTo l (at_ + 1) = wantTo l at_ ++ wantL [t] := by
  obtain ⟨hl, e⟩ := List.getElem?_eq_some_iff.1 h
  unfold wantTo
  rw [List.take_succ_eq_append_getElem hl, wantL_append, e]
theorem wantTo_skip {l : List Tk} {at_ : Nat} {ks : List Int} (h : standsP l at_ ks = true) (hk : ∀ k ∈ ks, wants k = false) : wantTo l (at_ + 1) = wantTo l at_ := by
  unfold standsP at h
  cases ht : l[at_]? with
  | none => rw [ht] at h; cases h
  | some t =>
    rw [ht] at h
    rw [wantTo_succ ht, wantL_no (hk t.kind (by simpa using h)), List.append_nil]
theorem wantTo_how (l : List Tk) (at_ : Nat) : wantTo l (howP l at_).2 = wantTo l at_ := by
  unfold howP
  cases ht : l[at_]? with
  | none => rfl
  | some t =>
    simp only
    split
    · rename_i h
      show wantTo l (at_ + 1) = _
      rw [wantTo_succ ht, wantL_no (by rw [h.1]; decide), List.append_nil]
    · rfl

def leafTok (kind : Int) (text : List UInt8) (lo hi : Int) : Tk := if kind = 1 then { kind := 1, text := text } else if kind = 2 then { kind := 10, text := text } else if kind = 3 then { kind := 11, text := text } else { kind := 12, lo := lo, hi := hi }
mutual
def leavesT : Tr → List Tk
  | .mk kind text lo hi _ _ kids => if kind = 1 ∨ kind = 2 ∨ kind = 3 ∨ kind = 4 then [leafTok kind text lo hi] else leavesL kids
def leavesL : List Tr → List Tk
  | [] => []
  | t :: r => leavesT t ++ leavesL r
end
theorem leavesT_eq (t : Tr) : leavesT t = if t.kind = 1 ∨ t.kind = 2 ∨ t.kind = 3 ∨ t.kind = 4 then [leafTok t.kind t.text t.lo t.hi] else leavesL t.kids := by
  cases t
  rw [leavesT]
  rfl
theorem leavesL_append : ∀ (a b : List Tr), leavesL (a ++ b) = leavesL a ++ leavesL b := by
  intro a
  induction a with
  | nil => intro b; rw [List.nil_append, leavesL, List.nil_append]
  | cons t r ih => intro b; rw [List.cons_append, leavesL, leavesL, ih, List.append_assoc]
theorem leavesL_one (t : Tr) : leavesL [t] = leavesT t := by rw [leavesL, leavesL, List.append_nil]
theorem leaves_repeat (tm t : Tr) : leavesT (repeatP tm t) = leavesT t := by
  unfold repeatP
  split
  · rw [leavesT_eq, if_neg (by show ¬ ((7 : Int) = 1 ∨ (7 : Int) = 2 ∨ (7 : Int) = 3 ∨ (7 : Int) = 4); omega)]
    exact leavesL_one t
  · rfl
theorem leaves_together (kind : Int) (ks : List Tr) (hk : ¬ (kind = 1 ∨ kind = 2 ∨ kind = 3 ∨ kind = 4)) : leavesT (togetherP kind ks) = leavesL ks := by
  unfold togetherP
  split
  · rename_i h
    match ks, h with
    | [t], _ => exact (leavesL_one t).symm
  · rw [leavesT_eq]
    show (if kind = 1 ∨ kind = 2 ∨ kind = 3 ∨ kind = 4 then _ else leavesL ks) = _
    rw [if_neg hk]
def leavesG (g : Grp) : List Tk := leavesL g.rows ++ leavesL g.parts
def leavesS (st : List Grp) : List Tk := st.flatMap leavesG
theorem leaves_endRow (g : Grp) : leavesG (endRowP g) = leavesG g := by
  unfold leavesG endRowP
  simp only
  rw [leavesL_append, leavesL_one, leaves_together 5 _ (by omega), leavesL, List.append_nil]
theorem leaves_whole (g : Grp) : leavesT (wholeP g) = leavesG g := by
  have h1 : leavesT (togetherP 6 (endRowP g).rows) = leavesG g := by
    rw [leaves_together 6 _ (by omega)]
    have := leaves_endRow g
    unfold leavesG at this
    rw [show (endRowP g).parts = [] from rfl, leavesL, List.append_nil] at this
    exact this
  unfold wholeP mayP
  rw [leaves_repeat]
  split
  · rw [leaves_repeat, h1]
  · exact h1
theorem leaves_add (t : Tr) (g : Grp) : leavesG (addG t g) = leavesG g ++ leavesT t := by
  unfold leavesG addG
  simp only
  rw [leavesL_append, leavesL_one, List.append_assoc]
theorem onTop_full (f : Grp → Grp) {st : List Grp} (h : st ≠ []) : onTop f st ≠ [] := by
  match st, h with
  | [g], _ => exact fun e => by cases e
  | g :: k :: r, _ => exact fun e => by cases e
theorem onTop_leaves (f : Grp → Grp) (x : List Tk) (hf : ∀ g, leavesG (f g) = leavesG g ++ x) : ∀ (st : List Grp), st ≠ [] → leavesS (onTop f st) = leavesS st ++ x := by
  intro st
  induction st with
  | nil => intro h; exact absurd rfl h
  | cons g r ih =>
    intro _
    cases r with
    | nil => simp [onTop, leavesS, hf]
    | cons k r =>
      have := ih (by simp)
      rw [onTop]
      unfold leavesS at *
      rw [List.flatMap_cons, this, ← List.append_assoc, ← List.flatMap_cons]
theorem onTop_all (f : Grp → Grp) (P : Grp → Prop) (hf : ∀ g, P g → P (f g)) : ∀ (st : List Grp), (∀ g ∈ st, P g) → ∀ g ∈ onTop f st, P g := by
  intro st
  induction st with
  | nil => intro h g hg; exact h g hg
  | cons k r ih =>
    intro h g hg
    cases r with
    | nil =>
      have : g = f k := by simpa [onTop] using hg
      rw [this]
      exact hf k (h k (by simp))
    | cons j r =>
      rw [onTop] at hg
      rcases List.mem_cons.1 hg with rfl | hg
      · exact h _ (by simp)
      · exact ih (fun g hg => h g (by simp [hg])) g hg
theorem leaves_top {st : List Grp} (h : st ≠ []) : leavesS st = leavesS st.dropLast ++ leavesG (topG st) := by
  have e : st = st.dropLast ++ [topG st] := by
    unfold topG
    rw [List.getLastD_eq_getLast?, List.getLast?_eq_some_getLast h]
    exact (List.dropLast_concat_getLast h).symm
  conv => lhs; rw [e]
  simp [leavesS]
theorem top_mem {st : List Grp} (h : st ≠ []) : topG st ∈ st := by
  unfold topG
  rw [List.getLastD_eq_getLast?, List.getLast?_eq_some_getLast h]
  exact List.getLast_mem h

def CleanL (l : List Tk) : Prop := ∀ t ∈ l, Clean t
theorem leaf_want {l : List Tk} {at_ : Nat} {ks : List Int} {t : Tr} (hc : CleanL l) (hk : ∀ k ∈ ks, wants k = true) (h : leafP l at_ ks = some t) : wantTo l (at_ + 1) = wantTo l at_ ++ leavesT t := by
  unfold leafP at h
  cases ht : l[at_]? with
  | none => rw [ht] at h; cases h
  | some tk =>
    rw [ht] at h
    simp only at h
    split at h
    · rename_i hh
      injection h with h
      subst h
      have hkw := hk tk.kind (by simpa using hh.1)
      have hcl := hc tk (List.mem_of_getElem? ht)
      rw [wantTo_succ ht, wantL_yes hkw]
      congr 1
      unfold Clean at hcl
      obtain ⟨k, p, tx, mn, mx, lo, hi⟩ := tk
      simp only [wants, Bool.or_eq_true, beq_iff_eq] at hkw
      simp only at hcl
      rcases hkw with ((rfl | rfl) | rfl) | rfl
      · obtain ⟨rfl, rfl, rfl, rfl⟩ := hcl.1 (by omega)
        rw [leavesT_eq]
        rfl
      · obtain ⟨rfl, rfl, rfl, rfl⟩ := hcl.1 (by omega)
        rw [leavesT_eq]
        rfl
      · obtain ⟨rfl, rfl, rfl, rfl⟩ := hcl.1 (by omega)
        rw [leavesT_eq]
        rfl
      · obtain ⟨rfl, rfl, rfl⟩ := hcl.2.1 rfl
        rw [leavesT_eq]
        rfl
    · cases h
def ShutOk (g : Grp) : Prop := g.shut = 6 ∨ g.shut = 8 ∨ g.shut = 13
theorem openG_ok (l : List Tk) (at_ : Nat) (tm : Tr) : ShutOk (openG l at_ tm) := by
  unfold ShutOk openG
  simp only
  split <;> simp
theorem part_leaves {l : List Tk} (hc : CleanL l) (X : List Tk) : ∀ (f at_ : Nat) (tm : Tr) (st : List Grp), st ≠ [] → (∀ g ∈ st, ShutOk g) → X ++ leavesS st = wantTo l at_ → (partF l f at_ tm st).1 = true →
    (partF l f at_ tm st).2.2 ≠ [] ∧ (∀ g ∈ (partF l f at_ tm st).2.2, ShutOk g) ∧ X ++ leavesS (partF l f at_ tm st).2.2 = wantTo l (partF l f at_ tm st).2.1 := by
  intro f
  induction f with
  | zero => intro at_ tm st _ _ _ h; cases h
  | succ f ih =>
    intro at_ tm st hne hsh hX h
    rw [partF] at h ⊢
    by_cases hs : standsP l at_ [5, 7] = true
    · rw [if_pos hs] at h ⊢
      refine ih _ _ _ (by simp) (fun g hg => ?_) ?_ h
      · rcases List.mem_append.1 hg with hg | hg
        · exact hsh g hg
        · rw [List.mem_singleton] at hg; subst hg; exact openG_ok _ _ _
      · have e : leavesS (st ++ [openG l at_ tm]) = leavesS st := by
          simp [leavesS, leavesG, openG, leavesL]
        rw [e, hX, wantTo_how, wantTo_skip hs (by decide)]
    · rw [if_neg hs] at h ⊢
      cases hl : leafP l at_ [1, 10, 11, 12] with
      | none => rw [hl] at h; cases h
      | some t =>
        simp only
        refine ⟨onTop_full _ hne, onTop_all (addG _) ShutOk (fun g hg => hg) _ hsh, ?_⟩
        rw [onTop_leaves _ (leavesT t) (fun g => by rw [leaves_add, leaves_repeat]) st hne, ← List.append_assoc, hX, leaf_want hc (by decide) hl]
theorem shut_leaves {l : List Tk} (X : List Tk) : ∀ (f at_ : Nat) (st : List Grp), st ≠ [] → (∀ g ∈ st, ShutOk g) → X ++ leavesS st = wantTo l at_ →
    (∀ t at2 s2, shutF l f at_ st = (some t, at2, s2) → X ++ leavesT t = wantTo l at2) ∧
    (∀ at2 s2, shutF l f at_ st = (none, at2, s2) → s2 ≠ [] ∧ (∀ g ∈ s2, ShutOk g) ∧ X ++ leavesS s2 = wantTo l at2) := by
  intro f
  induction f with
  | zero =>
    intro at_ st hne hsh hX
    refine ⟨(fun t at2 s2 h => by cases h), fun at2 s2 h => ?_⟩
    simp only [shutF, Prod.mk.injEq, true_and] at h
    obtain ⟨rfl, rfl⟩ := h
    exact ⟨hne, hsh, hX⟩
  | succ f ih =>
    intro at_ st hne hsh hX
    rw [shutF]
    by_cases hs : standsP l at_ [(topG st).shut] = true
    · rw [if_pos hs]
      have hsk : wantTo l (at_ + 1) = wantTo l at_ := wantTo_skip hs (by
        intro k hk
        rw [List.mem_singleton] at hk
        subst hk
        rcases hsh _ (top_mem hne) with h | h | h <;> rw [h] <;> decide)
      by_cases hd : st.dropLast.length = 0
      · rw [if_pos hd]
        refine ⟨fun t at2 s2 h => ?_, (fun at2 s2 h => by cases h)⟩
        simp only [Prod.mk.injEq, Option.some.injEq] at h
        obtain ⟨rfl, rfl, _⟩ := h
        have hnil : st.dropLast = [] := List.length_eq_zero_iff.1 hd
        rw [hsk, ← hX, leaves_top hne, hnil, leaves_whole]
        rfl
      · rw [if_neg hd]
        have hdn : st.dropLast ≠ [] := fun e => hd (by rw [e]; rfl)
        refine ih (at_ + 1) _ (onTop_full _ hdn) (onTop_all (addG _) ShutOk (fun g hg => hg) _ (fun g hg => hsh g (List.dropLast_subset st hg))) ?_
        rw [onTop_leaves _ (leavesG (topG st)) (fun g => by rw [leaves_add, leaves_whole]) _ hdn, hsk, ← hX, leaves_top hne]
    · rw [if_neg hs]
      refine ⟨(fun t at2 s2 h => by cases h), fun at2 s2 h => ?_⟩
      simp only [Prod.mk.injEq, true_and] at h
      obtain ⟨rfl, rfl⟩ := h
      exact ⟨hne, hsh, hX⟩
theorem choices_leaves {l : List Tk} (hc : CleanL l) (X : List Tk) : ∀ (f at_ : Nat) (st : List Grp), st ≠ [] → (∀ g ∈ st, ShutOk g) → X ++ leavesS st = wantTo l at_ → ∀ t at2, choicesF l f at_ st = (some t, at2) → X ++ leavesT t = wantTo l at2 := by
  intro f
  induction f with
  | zero => intro at_ st _ _ _ t at2 h; cases h
  | succ f ih =>
    intro at_ st hne hsh hX t at2 h
    rw [choicesF] at h
    by_cases hp : (partP l at_ st).1 = true
    · rw [if_pos hp] at h
      have h1 := part_leaves hc X (l.length + 1) (howP l at_).2 (howP l at_).1 st hne hsh (by rw [wantTo_how, hX]) hp
      change (partP l at_ st).2.2 ≠ [] ∧ (∀ g ∈ (partP l at_ st).2.2, ShutOk g) ∧ X ++ leavesS (partP l at_ st).2.2 = wantTo l (partP l at_ st).2.1 at h1
      have h2 := shut_leaves (l := l) X (l.length + 1) (partP l at_ st).2.1 (partP l at_ st).2.2 h1.1 h1.2.1 h1.2.2
      change (∀ t at2 s2, shutP l (partP l at_ st).2.1 (partP l at_ st).2.2 = (some t, at2, s2) → X ++ leavesT t = wantTo l at2) ∧ (∀ at2 s2, shutP l (partP l at_ st).2.1 (partP l at_ st).2.2 = (none, at2, s2) → s2 ≠ [] ∧ (∀ g ∈ s2, ShutOk g) ∧ X ++ leavesS s2 = wantTo l at2) at h2
      generalize shutP l (partP l at_ st).2.1 (partP l at_ st).2.2 = SP at *
      obtain ⟨o, a, s⟩ := SP
      cases o with
      | some u =>
        simp only [Prod.mk.injEq, Option.some.injEq] at h
        obtain ⟨rfl, rfl⟩ := h
        exact h2.1 _ _ _ rfl
      | none =>
        obtain ⟨k1, k2, k3⟩ := h2.2 _ _ rfl
        simp only at h
        split at h
        · rename_i hs
          refine ih (a + 1) _ (onTop_full _ k1) (onTop_all endRowP ShutOk (fun g hg => hg) _ k2) ?_ t at2 h
          rw [onTop_leaves endRowP [] (fun g => by rw [leaves_endRow, List.append_nil]) s k1, List.append_nil, k3, wantTo_skip hs (by decide)]
        · exact ih a s k1 k2 k3 t at2 h
    · rw [if_neg hp] at h
      cases h

/-- what a rule is of -/
def nameTok (n : List UInt8) : Tk := { kind := 1, text := n }
def ruleLeaves (r : Rl) : List Tk := nameTok r.name :: leavesT r.tree
/-- what is known of a rule by its first token -/
def RuleOf (l : List Tk) (r : Rl) : Prop := ∃ t, t ∈ l ∧ t.kind = 1 ∧ r.place = t.place ∧ r.name = t.text.map smallC ∧ nameB r.name = true
theorem place_at {l : List Tk} {at_ : Nat} {t : Tk} (h : l[at_]? = some t) : placeP l at_ = t.place := by
  obtain ⟨hl, e⟩ := List.getElem?_eq_some_iff.1 h
  unfold placeP
  rw [show min at_ (l.length - 1) = at_ from by omega, List.getD_eq_getElem?_getD, h]
  rfl
theorem place_in {l : List Tk} (h : l ≠ []) (at_ : Nat) : ∃ t ∈ l, placeP l at_ = t.place := by
  have hl : 0 < l.length := List.length_pos_iff.2 h
  have hm : min at_ (l.length - 1) < l.length := by omega
  refine ⟨l[min at_ (l.length - 1)], List.getElem_mem hm, ?_⟩
  unfold placeP
  rw [List.getD_eq_getElem?_getD, List.getElem?_eq_getElem hm]
  rfl
theorem leaf_name {l : List Tk} {at_ : Nat} {t : Tr} (h : leafP l at_ [1] = some t) : ∃ tk, l[at_]? = some tk ∧ tk.kind = 1 ∧ t = .mk 1 (tk.text.map smallC) 0 0 0 0 [] ∧ nameB (tk.text.map smallC) = true := by
  unfold leafP at h
  cases ht : l[at_]? with
  | none => rw [ht] at h; cases h
  | some tk =>
    rw [ht] at h
    simp only at h
    split at h
    · rename_i hh
      injection h with h
      have hk : tk.kind = 1 := by simpa using hh.1
      have hm : meaningP tk = .mk 1 (tk.text.map smallC) 0 0 0 0 [] := by
        unfold meaningP leafKind
        simp [hk]
      refine ⟨tk, rfl, hk, by rw [← h, hm], ?_⟩
      have hr := hh.2
      rw [hm] at hr
      have e : rightB (.mk 1 (tk.text.map smallC) 0 0 0 0 []) = (aloneB (.mk 1 (tk.text.map smallC) 0 0 0 0 []) && true) := rfl
      rw [e, Bool.and_true] at hr
      have e2 : aloneB (.mk 1 (tk.text.map smallC) 0 0 0 0 []) = (nameB (tk.text.map smallC) && noRangeB (.mk 1 (tk.text.map smallC) 0 0 0 0 []) && noTimesB (.mk 1 (tk.text.map smallC) 0 0 0 0 []) && true) := rfl
      rw [e2, Bool.and_eq_true, Bool.and_eq_true, Bool.and_eq_true] at hr
      exact hr.1.1.1
    · cases h
theorem rule_leaves {l : List Tk} (hc : CleanL l) {at_ at2 : Nat} {r : Rl} (h : ruleP l at_ = (some r, at2)) : wantTo l at2 = wantTo l at_ ++ ruleLeaves r ∧ RuleOf l r := by
  unfold ruleP at h
  cases hl : leafP l at_ [1] with
  | none => rw [hl] at h; cases h
  | some nm =>
    rw [hl] at h
    simp only at h
    split at h
    · rename_i hs
      cases hcp : choicesP l (at_ + 2) with
      | mk o a =>
        rw [hcp] at h
        cases o with
        | none => cases h
        | some t =>
          simp only [Prod.mk.injEq, Option.some.injEq] at h
          obtain ⟨rfl, rfl⟩ := h
          obtain ⟨tk, htk, hk, rfl, hn⟩ := leaf_name hl
          refine ⟨?_, ⟨tk, List.mem_of_getElem? htk, hk, place_at htk, rfl, hn⟩⟩
          have h1 := choices_leaves hc (wantTo l (at_ + 2)) (l.length + 1) (at_ + 2) [firstG] (by simp) (fun g hg => by rw [List.mem_singleton] at hg; subst hg; exact .inr (.inr rfl)) (by simp [leavesS, leavesG, firstG, leavesL]) t a hcp
          rw [← h1, show wantTo l (at_ + 2) = wantTo l (at_ + 1) from wantTo_skip hs (by decide), leaf_want hc (by decide) hl, leavesT_eq]
          show wantTo l at_ ++ [nameTok (tk.text.map smallC)] ++ leavesT t = wantTo l at_ ++ (nameTok (tk.text.map smallC) :: leavesT t)
          rw [List.append_assoc]
          rfl
    · cases h
theorem rule_place {l : List Tk} {at_ at2 : Nat} {r : Rl} (h : ruleP l at_ = (some r, at2)) : r.place = placeP l at_ := by
  unfold ruleP at h
  cases hl : leafP l at_ [1] with
  | none => rw [hl] at h; cases h
  | some nm =>
    rw [hl] at h
    simp only at h
    split at h
    · cases hcp : choicesP l (at_ + 2) with
      | mk o a =>
        rw [hcp] at h
        cases o with
        | none => cases h
        | some t =>
          simp only [Prod.mk.injEq, Option.some.injEq] at h
          obtain ⟨rfl, rfl⟩ := h
          rfl
    · cases h
def RuleFine (l : List Tk) (r : Rl) : Prop := rightB r.tree = true ∧ RuleOf l r
theorem parse_leaves {l : List Tk} (hc : CleanL l) : ∀ (f at_ : Nat) (acc : List Rl), l.length < f + at_ → acc.flatMap ruleLeaves = wantTo l at_ → (∀ r ∈ acc, RuleFine l r) →
    ((parseF l f at_ acc).2.2 = 0 → (parseF l f at_ acc).1.flatMap ruleLeaves = wantL l ∧ (parseF l f at_ acc).2.1 = 0 ∧ ∀ r ∈ (parseF l f at_ acc).1, RuleFine l r) ∧
    ((parseF l f at_ acc).2.2 ≠ 0 → (parseF l f at_ acc).1 = [] ∧ ∃ t ∈ l, (parseF l f at_ acc).2.1 = t.place) := by
  intro f
  induction f with
  | zero =>
    intro at_ acc hf hX hr
    refine ⟨fun _ => ⟨?_, rfl, hr⟩, fun h => absurd rfl h⟩
    show acc.flatMap ruleLeaves = _
    rw [hX, wantTo, List.take_of_length_le (by omega)]
  | succ f ih =>
    intro at_ acc hf hX hr
    by_cases hlt : l.length ≤ at_
    · rw [parseF_end hlt]
      refine ⟨fun _ => ⟨?_, rfl, hr⟩, fun h => absurd rfl h⟩
      show acc.flatMap ruleLeaves = _
      rw [hX, wantTo, List.take_of_length_le hlt]
    · have hne : l ≠ [] := fun e => hlt (by rw [e]; exact Nat.zero_le _)
      cases hrp : ruleP l at_ with
      | mk o at2 =>
        cases o with
        | none =>
          rw [parseF_none (by omega) hrp]
          exact ⟨(fun h => by cases h), fun _ => ⟨rfl, place_in hne at2⟩⟩
        | some x =>
          rw [parseF_some (by omega) hrp]
          obtain ⟨h1, h2⟩ := rule_leaves hc hrp
          have h3 := ruleP_adv hrp
          split
          · rename_i hright
            refine ih at2 (acc ++ [x]) (by omega) ?_ (fun r hm => ?_)
            · rw [List.flatMap_append, hX, h1]
              simp
            · rcases List.mem_append.1 hm with hm | hm
              · exact hr r hm
              · rw [List.mem_singleton] at hm; subst hm; exact ⟨hright, h2⟩
          · refine ⟨(fun h => by cases h), fun _ => ⟨rfl, ?_⟩⟩
            obtain ⟨t, ht, e⟩ := place_in hne at_
            exact ⟨t, ht, by rw [← e]; exact rule_place hrp⟩
theorem parseP_leaves {l : List Tk} (hc : CleanL l) :
    ((parseP l).2.2 = 0 → (parseP l).1.flatMap ruleLeaves = wantL l ∧ (parseP l).2.1 = 0 ∧ ∀ r ∈ (parseP l).1, RuleFine l r) ∧
    ((parseP l).2.2 ≠ 0 → (parseP l).1 = [] ∧ ∃ t ∈ l, (parseP l).2.1 = t.place) :=
  parse_leaves hc (l.length + 1) 0 [] (by omega) (by simp [wantTo, wantL]) (fun r hr => by cases hr)
end Go.Proofs.YtgbipbjpeecooaaGreatDoor

/-
  The contract of abnf.Parse: what tokens are as rules is what parseP tells. Conditions: the tokens and the table of leaves lie in memory; at most 200000 tokens, of texts of at most 65536 bytes.
-/
namespace Go.Proofs.YtgbipbjpeecooaaGreatDoor
open Go.RowKit

/-- blocks that are neither the rules' own nor the reader's -/
def RFree (v : Value) (r : Nat) (b : Nat) : Prop := b ∉ v.ownBlock.toList ∧ b ≠ r
/-- within Parse -/
structure ParseIn (w : World) (A : Option Addr) (n c : Nat) (toks : List Tk) (at_ : Nat) (v : Value) (ps : Rrow) (wr : World) : Prop where
  rd : ∃ vo, Rd wr w.heap.size A n c toks at_ vo
  lv : LeavesAt wr
  bel : Below w.heap.size w wr
  own : wr.ownsRow (w.heap.size + 1) 27 10 v ps.length (flatR ps)
  kids : RKids wr (RFree v w.heap.size) ps
theorem ParseIn.out {w wr : World} {A : Option Addr} {n c : Nat} {toks : List Tk} {at_ : Nat} {v : Value} {ps : Rrow} (h : ParseIn w A n c toks at_ v ps wr) : RulesAt wr w.heap.size v (ps.map Prod.fst) := by
  refine ⟨⟨ps, rfl, ownsRow_mono h.own (by omega), fun p hp => ⟨((h.kids p hp).1).mono (fun b hl _ => hl), (h.kids p hp).2⟩⟩⟩
theorem ParseIn.next {w wr w1 : World} {A : Option Addr} {n c : Nat} {toks : List Tk} {at_ at2 : Nat} {v : Value} {ps : Rrow} (h : ParseIn w A n c toks at_ v ps wr) (ho : Only w.heap.size wr w1) (hrd : ∃ vo, Rd w1 w.heap.size A n c toks at2 vo) (hg : 4 < w.heap.size) : ParseIn w A n c toks at2 v ps w1 := by
  refine ⟨hrd, h.lv.only ho hg, ⟨ho.os.trans h.bel.os, ho.tape.trans h.bel.tape, ho.output.trans h.bel.output, Nat.le_trans h.bel.size ho.size, fun k hk => (ho.block k (by have := h.bel.size; omega) (fun e => by have := Option.some.inj e; omega)).trans (h.bel.block k hk)⟩, ?_, fun p hp => ⟨(h.kids p hp).1.later ho.size (fun b hl hF => ⟨hF, ho.block b hl (fun e => hF.2 (Option.some.inj e))⟩), (h.kids p hp).2⟩⟩
  exact ownsRow_same h.own (fun b hb => ho.block b (h.own.lt b hb).2 (fun e => by have := (h.own.lt b hb).1; have := Option.some.inj e; omega))
theorem ParseIn.later {w wr w1 : World} {A : Option Addr} {n c : Nat} {toks : List Tk} {at_ : Nat} {v : Value} {ps : Rrow} (h : ParseIn w A n c toks at_ v ps wr) (hb : Below wr.heap.size wr w1) (hg : 4 < w.heap.size) : ParseIn w A n c toks at_ v ps w1 := by
  obtain ⟨vo, hrd⟩ := h.rd
  exact h.next (Only.of_below hb) ⟨vo, hrd.later hb⟩ hg
/-- one rule more -/
theorem ParseIn.more {w wr w1 w2 : World} {A : Option Addr} {n c : Nat} {toks : List Tk} {at_ gg cap : Nat} {v : Value} {ps : Rrow} {x : Rl} {sl : Value} (h : ParseIn w A n c toks at_ v ps wr) (hb : Below wr.heap.size wr w1) (hgrow : w1.grownBy w2 v.ownBlock) (hown : w2.ownsRow (w.heap.size + 1) 27 10 (.slice (some ⟨gg, 0, none⟩) (ps.length + 1) cap) (ps.length + 1) (flatR ps ++ ruleCells x sl)) (hat : v.ownBlock = some gg ∨ wr.heap.size ≤ gg)
    (hk : KidsAt wr (RFree v w.heap.size) x.tree.kids sl) (ht : x.tree.text.length ≤ maxLen) (hg : 4 < w.heap.size) : ParseIn w A n c toks at_ (.slice (some ⟨gg, 0, none⟩) (ps.length + 1) cap) (ps ++ [(x, sl)]) w2 := by
  have hgb := (hown.lt gg rfl).1
  have hsame : ∀ b, b < wr.heap.size → some b ≠ v.ownBlock → w2.heap[b]? = wr.heap[b]? := fun b hl hne => (hgrow.block b (Nat.lt_of_lt_of_le hl hb.size) hne).trans (hb.block b hl)
  have hsz : wr.heap.size ≤ w2.heap.size := Nat.le_trans hb.size hgrow.size
  have hfree : ∀ b, b < wr.heap.size → RFree v w.heap.size b → RFree (.slice (some ⟨gg, 0, none⟩) (ps.length + 1) cap) w.heap.size b ∧ w2.heap[b]? = wr.heap[b]? := by
    intro b hl hF
    have hne : some b ≠ v.ownBlock := fun e => hF.1 (by rw [← e]; simp)
    refine ⟨⟨fun hin => ?_, hF.2⟩, hsame b hl hne⟩
    have : b = gg := by simpa [Value.ownBlock] using hin
    rcases hat with hat | hat
    · exact hne (by rw [hat, this])
    · omega
  have hvb : ∀ b, v.ownBlock = some b → w.heap.size + 1 ≤ b := fun b hb2 => (h.own.lt b hb2).1
  have hbel2 : Below (w.heap.size + 1) wr w2 := by
    refine ⟨hgrow.os.trans hb.os, hgrow.tape.trans hb.tape, hgrow.output.trans hb.output, hsz, fun k hk => ?_⟩
    obtain ⟨vo, hrd⟩ := h.rd
    have := hrd.blk.lt
    exact hsame k (by omega) (fun e => by have := hvb k e.symm; omega)
  refine ⟨?_, h.lv.below hbel2 (by omega), h.bel.trans (hbel2.mono (by omega)), ?_, ?_⟩
  · obtain ⟨vo, hrd⟩ := h.rd
    exact ⟨vo, hrd.under hbel2 (by omega)⟩
  · rw [flatR_snoc, List.length_append]
    exact hown
  · intro p hp
    rcases List.mem_append.1 hp with hp | hp
    · exact ⟨(h.kids p hp).1.later hsz hfree, (h.kids p hp).2⟩
    · have : p = (x, sl) := by simpa using hp
      subst this
      exact ⟨hk.later hsz hfree, ht⟩

set_option maxRecDepth 100000 in
set_option maxHeartbeats 1600000 in
theorem Parse_any (w : World) (A : Option Addr) (n c : Nat) (toks : List Tk) (hrow : TokRow w (.slice A n c) toks) (hlen : toks.length = n) (hfar : ∀ a, A = some a → a.block < w.heap.size) (hmost : n ≤ 200000) (hlv : LeavesAt w) (hsh : Short toks) :
    Calls Tryz.prog 12 #[.slice A n c] w fun e w' => ParseOut w (parseP toks) e w' := by
  obtain ⟨i0, hi0, hz0, hz1, hz2⟩ := info_parts Tryz.infoRule
  have HR0 : Hid (parseP toks = parseF toks (toks.length + 1) 0 []) := show _ = _ from rfl
  generalize parseP toks = R at *
  have hg := hlv.lt
  have hb0 : Below w.heap.size w (w.alloc (.cells #[.slice A n c, .int .i64 0, .slice none 0 0] 78)) := (Below.refl _ _).alloc (Nat.le_refl _) _
  have HP0 : Hid (ParseIn w A n c toks 0 (.slice none 0 0) [] (w.alloc (.cells #[.slice A n c, .int .i64 0, .slice none 0 0] 78))) :=
    ⟨⟨_, ⟨Blk.new _ _ _, hrow.below hb0, hlen, hfar, Nat.zero_le _, hmost⟩⟩, hlv.below hb0 hg, hb0, World.ownsRow_nil _ _ _ _, fun p hp => (by cases hp)⟩
  have HLEN := Lib.hid hlen
  have HSH := Lib.hid hsh
  clear hrow hfar hlv hsh hb0 hlen
  go_enter Tryz.func12, Tryz.ntmps12
  go_wp2_with fail
  generalize w.alloc (.cells #[.slice A n c, .int .i64 0, .slice none 0 0] 78) = W0 at *
  go_loopw [5] (fun vs wr => ∃ (at2 f : Nat) (ps : Rrow) (v : Value), v = vs ∧ Hid (ParseIn w A n c toks at2 v ps wr) ∧ n < f + at2 ∧ at2 ≤ n ∧ ps.length ≤ at2 ∧ Hid (R = parseF toks f at2 (ps.map Prod.fst))) (fun _ wr => n - atOf w.heap.size wr)
  case atStart => exact ⟨0, toks.length + 1, [], _, rfl, HP0, by rw [HLEN.out]; omega, Nat.zero_le _, Nat.le_refl _, HR0⟩
  case round =>
    clear HP0 HR0
    obtain ⟨at2, f, ps, v, rfl, HP, hf, hle, hps, HR⟩ := hrel
    obtain ⟨vo, hrd⟩ := HP.out.rd
    have c1 : wr.cell? ⟨w.heap.size, 1, none⟩ = some (.int .i64 at2) := hrd.blk.cell 1
    by_cases hlt : at2 < n
    · obtain ⟨f, rfl⟩ : ∃ f', f = f' + 1 := ⟨f - 1, by omega⟩
      have hlt' : (at2 : Int) < n := by omega
      have HRU := Lib.hid (rule_any wr w.heap.size v.ownBlock.toList A n c toks at2 vo hrd HP.out.lv hg (fun hin => by
        have := (HP.out.own.lt w.heap.size (by simpa using hin)).1
        omega) (fun b hin => (HP.out.own.lt b (by simpa using hin)).2) HSH.out hlt)
      have HN := Lib.hid (fun at3 (h : ruleP toks at2 = (none, at3)) => parseF_none (f := f) (acc := ps.map Prod.fst) (show at2 < toks.length from by rw [HLEN.out]; exact hlt) h)
      have HS := Lib.hid (fun at3 x (h : ruleP toks at2 = (some x, at3)) => parseF_some (f := f) (acc := ps.map Prod.fst) (show at2 < toks.length from by rw [HLEN.out]; exact hlt) h)
      have HAD := Lib.hid (fun at3 x (h : ruleP toks at2 = (some x, at3)) => ruleP_adv h)
      clear hrd
      generalize ruleP toks at2 = RP at *
      obtain ⟨o, at3⟩ := RP
      go_wp2_with fail
      refine HRU.out.mono ?_
      rintro e w1 ⟨hrd1, ho1, hval⟩
      have HP1 := Lib.hid (HP.out.next ho1 hrd1 hg)
      clear HRU c1
      cases o with
      | none =>
        have HR2 : Hid (R = ([], placeP toks at3, 20)) := by
          show R = _
          rw [HR.out, HN.out at3 rfl]
        have hval' : e = .returned (.tuple #[.agg #[.string ⟨#[]⟩, .int .i64 0, .bool false, .int .u8 0, .string ⟨#[]⟩, .int .u8 0, .int .u8 0, .int .i64 0, .int .i64 0, .slice none 0 0], .bool false]) := hval
        subst hval'
        have hP2 := HP1.out.later ((Below.refl _ _).alloc (Nat.le_refl _) (.cells #[.string ⟨#[]⟩, .int .i64 0, .bool false, .int .u8 0, .string ⟨#[]⟩, .int .u8 0, .int .u8 0, .int .i64 0, .int .i64 0, .slice none 0 0] 27)) hg
        obtain ⟨vo2, hrd2⟩ := hP2.rd
        have HPL := Lib.hid (place_any _ w.heap.size A n c toks at3 vo2 hrd2 (by omega))
        have HP2 := Lib.hid hP2
        clear hval hP2 hrd2 HN HS HAD HR
        go_wp2_with fail
        refine HPL.out.mono ?_
        rintro e w3 ⟨rfl, hb3⟩
        have HP3 := Lib.hid (HP2.out.later hb3 hg)
        clear hb3 HPL
        go_wp2
        go_ret3
        refine ⟨.slice none 0 0, by simp [HR2.out], ?_, HP3.out.bel⟩
        rw [HR2.out]
        exact ⟨⟨[], rfl, World.ownsRow_nil _ _ _ _, fun p hp => (by cases hp)⟩⟩
      | some x =>
        have hS := HS.out at3 x rfl
        have hadv := HAD.out at3 x rfl
        obtain ⟨sl, he, hk, ht⟩ := hval
        obtain ⟨sp, sc, rfl, _⟩ := hk.form
        generalize x.tree.kids.length = sn at *
        have he' : e = .returned (.tuple #[.agg #[.string (bs x.name), .int .i64 x.place, .bool x.more, .int .u8 x.tree.kind, .string (bs x.tree.text), .int .u8 x.tree.lo, .int .u8 x.tree.hi, .int .i64 x.tree.mn, .int .i64 x.tree.mx, .slice sp sn sc], .bool true]) := he
        subst he'
        have hb2 : Below w1.heap.size w1 (w1.alloc (.cells #[.string (bs x.name), .int .i64 x.place, .bool x.more, .int .u8 x.tree.kind, .string (bs x.tree.text), .int .u8 x.tree.lo, .int .u8 x.tree.hi, .int .i64 x.tree.mn, .int .i64 x.tree.mx, .slice sp sn sc] 27)) := (Below.refl _ _).alloc (Nat.le_refl _) _
        have hB2 : Blk (w1.alloc (.cells #[.string (bs x.name), .int .i64 x.place, .bool x.more, .int .u8 x.tree.kind, .string (bs x.tree.text), .int .u8 x.tree.lo, .int .u8 x.tree.hi, .int .i64 x.tree.mn, .int .i64 x.tree.mx, .slice sp sn sc] 27)) w1.heap.size 27 #[.string (bs x.name), .int .i64 x.place, .bool x.more, .int .u8 x.tree.kind, .string (bs x.tree.text), .int .u8 x.tree.lo, .int .u8 x.tree.hi, .int .i64 x.tree.mn, .int .i64 x.tree.mx, .slice sp sn sc] := Blk.new _ _ _
        have HRT := Lib.hid (abRight_any x.tree (.slice sp sn sc) (w1.alloc (.cells #[.string (bs x.name), .int .i64 x.place, .bool x.more, .int .u8 x.tree.kind, .string (bs x.tree.text), .int .u8 x.tree.lo, .int .u8 x.tree.hi, .int .i64 x.tree.mn, .int .i64 x.tree.mx, .slice sp sn sc] 27)) ((hk.same hb2).mono (fun b hl _ => hl)) ht)
        have HRR : Hid (R = if rightB x.tree = true then parseF toks f at3 (ps.map Prod.fst ++ [x]) else ([], x.place, 21)) := by
          show R = _
          rw [HR.out, hS]
        have HP2 := Lib.hid (HP1.out.later hb2 hg)
        have hk' : KidsAt w1 (RFree v w.heap.size) x.tree.kids (.slice sp sn sc) := hk
        have HK := Lib.hid hk'
        have HB2 := Lib.hid hB2
        have Hb2 := Lib.hid hb2
        unfold treeV at HRT
        clear he hk hk' hS HS HN HAD HR hb2 hB2
        go_wp2_with fail
        refine HRT.out.mono ?_
        rintro e w3 ⟨rfl, hb3⟩
        have HP3 := Lib.hid (HP2.out.later hb3 hg)
        have hB3 := HB2.out.below hb3 HB2.out.lt
        have hc3 := hB3.cell
        have hB3lt := hB3.lt
        have HK3 := Lib.hid (HK.out.same (Hb2.out.trans (hb3.mono Hb2.out.size)))
        have Hb13 := Lib.hid (Hb2.out.trans (hb3.mono Hb2.out.size))
        clear hB3 HRT HB2
        cases hr : rightB x.tree with
        | false =>
          have hRR := HRR.out
          rw [hr] at hRR
          have HR2 : Hid (R = ([], x.place, 21)) := hRR
          clear hRR HRR hr hb3
          go_wp2
          go_quiet (fail)
          go_wp2
          go_ret3
          refine ⟨.slice none 0 0, by simp [HR2.out], ?_, below_drewN HP3.out.bel _⟩
          rw [HR2.out]
          exact ⟨⟨[], rfl, World.ownsRow_nil _ _ _ _, fun p hp => (by cases hp)⟩⟩
        | true =>
          have hRR := HRR.out
          rw [hr] at hRR
          have HR2 : Hid (R = parseF toks f at3 ((ps ++ [(x, Value.slice sp sn sc)]).map Prod.fst)) := by
            show R = _
            rw [List.map_append]
            exact hRR
          have hsz3 : w.heap.size + 1 ≤ w3.heap.size := by
            obtain ⟨v3, hrd3⟩ := HP3.out.rd
            exact hrd3.blk.lt
          have hle3 : at3 ≤ n := by
            obtain ⟨v3, hrd3⟩ := HP3.out.rd
            exact hrd3.le
          clear hRR HRR hr hb3
          go_wp2_with (at_builtin; refine wpList_append_lies _ rfl _ _ 35 rfl (w.heap.size + 1) 27 i0 _ 10 104 Tryz.underlying35 hi0 hz0 hz1 hz2 rfl (by decide) v ps.length (flatR ps) (by rfl) (HP3.out.own.alloc _) ⟨w3.heap.size, 0, none⟩ 1 1 (ruleCells x (.slice sp sn sc)) (by rfl) (by rfl) (World.news_of_block (cs := (ruleCells x (.slice sp sn sc)).toArray) (t := 27) (fr := (0, 0)) (heap_alloc_new w3 _)) ?c1 (by omega) ?c2 ?c3 ?c4 (w3.heap.size + 1) (by simp) ?_)
          case c1 => simp [ruleCells, Value.oneCell']
          case c2 => unfold maxLen; omega
          case c3 => omega
          case c4 => simp; omega
          intro gg cap w4 hown hgrow hat _
          have hP4 := HP3.out.more ((Below.refl _ _).alloc (Nat.le_refl _) _) hgrow hown (hat.imp id (fun e => by omega)) HK3.out ht hg
          have HP4 := Lib.hid hP4
          have HM : Hid (∀ y, atOf w.heap.size y = at2 → n - atOf w.heap.size w4 < n - atOf w.heap.size y) := by
            intro y hy
            obtain ⟨v4, hrd4⟩ := hP4.rd
            have e4 : atOf w.heap.size w4 = at3 := by
              have : w4.cell? ⟨w.heap.size, 1, none⟩ = some (.int .i64 at3) := hrd4.blk.cell 1
              unfold atOf
              rw [this]
              simp [intOf]
            rw [e4, hy]
            omega
          have HA : Hid (atOf w.heap.size wr = at2) := by
            obtain ⟨v4, hrd4⟩ := HP.out.rd
            have : wr.cell? ⟨w.heap.size, 1, none⟩ = some (.int .i64 at2) := hrd4.blk.cell 1
            show atOf _ _ = _
            unfold atOf
            rw [this]
            simp [intOf]
          have hln : (ps ++ [(x, Value.slice sp sn sc)]).length ≤ at3 := by simp; omega
          clear hown hgrow hat hP4 HP3 HP2 HP1 HP HK HK3 hc3
          go_wp2
          go_roundw
          case rel => exact ⟨at3, f, _, _, rfl, HP4, by omega, hle3, hln, HR2⟩
          case measure => exact HM.out _ HA.out
    · have HR2 : Hid (R = (ps.map Prod.fst, 0, 0)) := by
        show R = _
        rw [HR.out, parseF_end (by rw [HLEN.out]; omega)]
      clear HR
      go_wp2
      go_ret3
      refine ⟨v, by simp [HR2.out], ?_, HP.out.bel⟩
      rw [HR2.out]
      exact HP.out.out
end Go.Proofs.YtgbipbjpeecooaaGreatDoor

/-
  The contract of frankinglow's Trees where the two trees are the same: it answers true. Conditions: both lie in memory.
-/
namespace Go.Proofs.YtgbipbjpeecooaaGreatDoor
open Go.RowKit

set_option maxRecDepth 100000 in
set_option maxHeartbeats 1600000 in
theorem Trees_aux {w : World} {S : Nat → Prop} {ks : List Tr} {sl : Value} (h : KidsAt w S ks sl) : ∀ (t : Tr), t.kids = ks → ∀ (sl2 : Value) (w' : World), Below w.heap.size w w' → KidsAt w (· < w.heap.size) ks sl2 →
    Calls Tryz.prog 38 #[treeV t sl, treeV t sl2] w' fun e w2 => e = .returned (.bool true) ∧ Below w'.heap.size w' w2 := by
  induction h with
  | nil p cap =>
    intro t ht sl2 w' hw hk2
    obtain ⟨p2, c2, rfl, _⟩ := hk2.form
    unfold treeV
    go_enter Tryz.func38, Tryz.ntmps38
    go_wp2
    go_loopw [58] (fun i wr => i = .int .i64 0 ∧ Below w'.heap.size w' wr) (fun _ _ => 0)
    case atStart => exact ⟨rfl, ((Below.refl _ _).alloc (Nat.le_refl _) _).alloc (by simp) _⟩
    case round =>
      obtain ⟨rfl, hbel⟩ := hrel
      go_wp2
      go_ret
      exact ⟨rfl, hbel⟩
  | row kids b off cap sls hS hlt hn hcap hm htx hc hk ih =>
    intro t ht sl2 w' hw hk2
    obtain ⟨p2, c2, rfl, _⟩ := hk2.form
    have HIH : Hid (∀ i x, kids[i]? = some x → ∀ (sl2 : Value) (w' : World), Below w.heap.size w w' → KidsAt w (· < w.heap.size) x.kids sl2 → Calls Tryz.prog 38 #[treeV x (sls i), treeV x sl2] w' fun e w2 => e = .returned (.bool true) ∧ Below w'.heap.size w' w2) := by
      intro i x hx
      obtain ⟨hi, he⟩ := List.getElem?_eq_some_iff.1 hx
      subst he
      exact ih i hi _ rfl
    have HC : Hid (∀ i x, kids[i]? = some x → (w.cell? ⟨b, off + i * 7, none⟩ = some (.int .u8 x.kind) ∧ w.cell? ⟨b, off + i * 7 + 1, none⟩ = some (.string (bs x.text)) ∧ w.cell? ⟨b, off + i * 7 + 2, none⟩ = some (.int .u8 x.lo) ∧ w.cell? ⟨b, off + i * 7 + 3, none⟩ = some (.int .u8 x.hi) ∧ w.cell? ⟨b, off + i * 7 + 4, none⟩ = some (.int .i64 x.mn) ∧ w.cell? ⟨b, off + i * 7 + 5, none⟩ = some (.int .i64 x.mx) ∧ w.cell? ⟨b, off + i * 7 + 6, none⟩ = some (sls i)) ∧ ∃ p c, sls i = .slice p x.kids.length c) := by
      intro i x hx
      obtain ⟨hi, he⟩ := List.getElem?_eq_some_iff.1 hx
      subst he
      have key := hc i hi
      obtain ⟨p, c, hp, _⟩ := (hk i hi).form
      exact ⟨⟨key 0 _ rfl, key 1 _ rfl, key 2 _ rfl, key 3 _ rfl, key 4 _ rfl, key 5 _ rfl, key 6 _ rfl⟩, p, c, hp⟩
    have HK2 := Lib.hid hk2
    have hm' := hm
    unfold maxLen at hm'
    clear ih hc hk hk2 htx hS ht hm hcap
    have HW := Lib.hid hw
    have hwz := hw.size
    clear hw
    generalize hlen : kids.length = n at *
    have HL := Lib.hid hlen
    clear hlen
    have hB0 : Below w'.heap.size w' ((w'.alloc (.cells #[.int .u8 t.kind, .string (bs t.text), .int .u8 t.lo, .int .u8 t.hi, .int .i64 t.mn, .int .i64 t.mx, .slice (some ⟨b, off, none⟩) n cap] 25)).alloc (.cells #[.int .u8 t.kind, .string (bs t.text), .int .u8 t.lo, .int .u8 t.hi, .int .i64 t.mn, .int .i64 t.mx, .slice p2 n c2] 25)) := ((Below.refl _ _).alloc (Nat.le_refl _) _).alloc (by simp) _
    have hBa : Blk ((w'.alloc (.cells #[.int .u8 t.kind, .string (bs t.text), .int .u8 t.lo, .int .u8 t.hi, .int .i64 t.mn, .int .i64 t.mx, .slice (some ⟨b, off, none⟩) n cap] 25)).alloc (.cells #[.int .u8 t.kind, .string (bs t.text), .int .u8 t.lo, .int .u8 t.hi, .int .i64 t.mn, .int .i64 t.mx, .slice p2 n c2] 25)) w'.heap.size 25 #[.int .u8 t.kind, .string (bs t.text), .int .u8 t.lo, .int .u8 t.hi, .int .i64 t.mn, .int .i64 t.mx, .slice (some ⟨b, off, none⟩) n cap] := (Blk.new _ _ _).alloc _
    have hBb : Blk ((w'.alloc (.cells #[.int .u8 t.kind, .string (bs t.text), .int .u8 t.lo, .int .u8 t.hi, .int .i64 t.mn, .int .i64 t.mx, .slice (some ⟨b, off, none⟩) n cap] 25)).alloc (.cells #[.int .u8 t.kind, .string (bs t.text), .int .u8 t.lo, .int .u8 t.hi, .int .i64 t.mn, .int .i64 t.mx, .slice p2 n c2] 25)) (w'.heap.size + 1) 25 #[.int .u8 t.kind, .string (bs t.text), .int .u8 t.lo, .int .u8 t.hi, .int .i64 t.mn, .int .i64 t.mx, .slice p2 n c2] := Blk.new_at _ _ _ _ (by simp)
    have HB0 := Lib.hid hB0
    have HBa := Lib.hid hBa
    have HBb := Lib.hid hBb
    clear hB0 hBa hBb
    unfold treeV
    go_enter Tryz.func38, Tryz.ntmps38
    go_wp2
    generalize (w'.alloc (.cells #[.int .u8 t.kind, .string (bs t.text), .int .u8 t.lo, .int .u8 t.hi, .int .i64 t.mn, .int .i64 t.mx, .slice (some ⟨b, off, none⟩) n cap] 25)).alloc (.cells #[.int .u8 t.kind, .string (bs t.text), .int .u8 t.lo, .int .u8 t.hi, .int .i64 t.mn, .int .i64 t.mx, .slice p2 n c2] 25) = W0 at *
    go_loopw [5, 58] (fun _ i wr => ∃ k : Nat, k ≤ n ∧ i = .int .i64 k ∧ Below W0.heap.size W0 wr) (fun _ i _ => n - (intOf i).toNat)
    case atStart => exact ⟨0, Nat.zero_le _, rfl, Below.refl _ _⟩
    case round =>
      obtain ⟨k, hk, rfl, hbel⟩ := hrel
      have hBW : Below w'.heap.size w' wr := HB0.out.trans (hbel.mono HB0.out.size)
      have hWW : Below w.heap.size w wr := HW.out.trans (hBW.mono hwz)
      by_cases hlt2 : k < n
      · obtain ⟨x, hx⟩ : ∃ x, kids[k]? = some x := ⟨_, List.getElem?_eq_getElem (by rw [HL.out]; exact hlt2)⟩
        obtain ⟨⟨a0, a1, a2, a3, a4, a5, a6⟩, q1, d1, hsl⟩ := HC.out k x hx
        obtain ⟨g, o2, ksl, rfl, hg, _, e0, e1, e2, e3, e4, e5, e6, hkk, _⟩ := HK2.out.at_ hx
        have HREC := Lib.hid (fun (W' : World) (hW' : Below w.heap.size w W') => HIH.out k x hx ksl W' hW' hkk)
        obtain ⟨q2, d2, rfl, _⟩ := hkk.form
        rw [hsl] at HREC a6
        have hcw : ∀ b o, b < w.heap.size → wr.cell? ⟨b, o, none⟩ = w.cell? ⟨b, o, none⟩ := fun b o hb => hWW.cell (p := ⟨b, o, none⟩) hb
        have hca := (HBa.out.below hbel HBa.out.lt).cell
        have hcb := (HBb.out.below hbel HBb.out.lt).cell
        have hlt' : (k : Int) < n := by omega
        have h0' : (0 : Int) ≤ k := by omega
        have HBEL := Lib.hid hbel
        have HWW := Lib.hid hWW
        have HBW := Lib.hid hBW
        unfold treeV at HREC
        clear hx hkk hsl hbel hWW hBW
        generalize x.kids.length = xl at *
        go_wp2
        go_still_tail 10, (by kernel_rfl)
        go_wp2_with fail
        refine (HREC.out _ HWW.out.drew).mono ?_
        rintro e w5 ⟨rfl, hb5⟩
        have hbel5 : Below W0.heap.size W0 w5 := HBEL.out.drew.trans (hb5.mono HBEL.out.size)
        clear hca hcb hcw
        go_wp2
        go_roundw
        case rel => exact ⟨k + 1, by omega, by go_num, hbel5⟩
        case measure => simp [intOf]; omega
      · go_wp2
        go_ret
        exact ⟨rfl, hBW⟩
theorem Trees_same (t : Tr) (sl sl2 : Value) (w : World) (h : KidsAt w (· < w.heap.size) t.kids sl) (h2 : KidsAt w (· < w.heap.size) t.kids sl2) :
    Calls Tryz.prog 38 #[treeV t sl, treeV t sl2] w fun e w2 => e = .returned (.bool true) ∧ Below w.heap.size w w2 := Trees_aux h t rfl sl2 w (Below.refl _ _) h2
end Go.Proofs.YtgbipbjpeecooaaGreatDoor

/-
  The contract of frankinglaw02's leaves: a tree's leaves, as tokens, behind those that are there. Conditions: the tree's kids lie in memory; at most 100000 tokens.
-/
namespace Go.Proofs.YtgbipbjpeecooaaGreatDoor
open Go.RowKit

/-- what leaves hands back: tokens in a row of one's own -/
def LeavesOut (base : Nat) (w : World) (toks : List Tk) (e : Ending) (w' : World) : Prop :=
  ∃ v, e = .returned v ∧ w'.ownsRow base 53 7 v toks.length (toksCells toks) ∧ Below base w w'
theorem below_grown {w w1 w2 : World} {base : Nat} {v : Value} {n : Nat} {xs : List Value} {T : TypeId} {size : Nat} (hown : w.ownsRow base T size v n xs) (hb : Below base w w1) (hw : base ≤ w.heap.size) (hgrow : w1.grownBy w2 v.ownBlock) : Below base w w2 :=
  ⟨hgrow.os.trans hb.os, hgrow.tape.trans hb.tape, hgrow.output.trans hb.output, Nat.le_trans hb.size hgrow.size, fun k hk => (hgrow.block k (by have := hb.size; omega) (fun e => by have := (hown.lt k e.symm).1; omega)).trans (hb.block k hk)⟩
theorem news_here (W : World) (cs : List Value) (t : TypeId) (B : Nat) (hB : B = W.heap.size) : ∀ j u, cs[j]? = some u → (W.alloc (.cells cs.toArray t)).cell? ((⟨B, 0, none⟩ : Addr).add j) = some u := news_at W cs t B hB
theorem own_snoc {w : World} {base : Nat} {v : Value} {toks : List Tk} {t : Tk} {n : Nat} (hn : n = toks.length + 1) (h : w.ownsRow base 53 7 v n (toksCells toks ++ tokCells t)) : w.ownsRow base 53 7 v (toks ++ [t]).length (toksCells (toks ++ [t])) := by
  rw [toksCells_snoc, List.length_append, List.length_singleton, ← hn]
  exact h

set_option maxRecDepth 100000 in
set_option maxHeartbeats 1600000 in
theorem leaves_1 (t : Tr) (A : Option Addr) (n c base : Nat) (v : Value) (acc : List Tk) (w : World) (hk : t.kind = 1) (hown : w.ownsRow base 53 7 v acc.length (toksCells acc)) (hb : base ≤ w.heap.size) (hn : acc.length ≤ 100000) :
    Calls Tryz.prog 25 #[treeV t (.slice A n c), v] w fun e w' => LeavesOut base w (acc ++ leavesT t) e w' := by
  obtain ⟨i0, hi0, hz0, hz1, hz2⟩ := info_parts Tryz.infoTok
  have HT : Hid (leavesT t = [({ kind := 1, text := t.text } : Tk)]) := by
    show _ = _
    rw [leavesT_eq, hk]
    rfl
  rw [HT.out]
  unfold treeV
  rw [hk]
  have HOWN := Lib.hid hown
  clear hown hk HT
  go_enter Tryz.func25, Tryz.ntmps25
  go_wp2_with (at_builtin; refine wpList_append_lies _ rfl _ _ 22 rfl base 53 i0 _ 7 56 Tryz.underlying22 hi0 hz0 hz1 hz2 rfl (by decide) v acc.length (toksCells acc) (by rfl) ((HOWN.out.alloc _).alloc _) ⟨w.heap.size + 1, 0, none⟩ 1 1 (tokCells ({ kind := 1, text := t.text } : Tk)) (by rfl) (by rfl) (by exact news_here _ (tokCells ({ kind := 1, text := t.text } : Tk)) 53 (w.heap.size + 1) (by simp)) ?c1 (by omega) ?c2 ?c3 ?c4 (w.heap.size + 2) (by simp) ?_)
  case c1 => simp [tokCells, Value.oneCell']
  case c2 => unfold maxLen; omega
  case c3 => omega
  case c4 => simp; omega
  intro gg cap w2 hown2 hgrow2 hat2 hlt2
  have HEND : Hid (LeavesOut base w (acc ++ [({ kind := 1, text := t.text } : Tk)]) (.returned (.slice (some ⟨gg, 0, none⟩) (acc.length + 1) cap)) w2) := ⟨_, rfl, own_snoc rfl hown2, below_grown HOWN.out (((Below.refl _ _).alloc hb _).alloc (by simp; omega) _) hb hgrow2⟩
  clear hown2 hgrow2 hat2
  go_wp2
  go_ret
  exact HEND.out

set_option maxRecDepth 100000 in
set_option maxHeartbeats 1600000 in
theorem leaves_2 (t : Tr) (A : Option Addr) (n c base : Nat) (v : Value) (acc : List Tk) (w : World) (hk : t.kind = 2) (hown : w.ownsRow base 53 7 v acc.length (toksCells acc)) (hb : base ≤ w.heap.size) (hn : acc.length ≤ 100000) :
    Calls Tryz.prog 25 #[treeV t (.slice A n c), v] w fun e w' => LeavesOut base w (acc ++ leavesT t) e w' := by
  obtain ⟨i0, hi0, hz0, hz1, hz2⟩ := info_parts Tryz.infoTok
  have HT : Hid (leavesT t = [({ kind := 10, text := t.text } : Tk)]) := by
    show _ = _
    rw [leavesT_eq, hk]
    rfl
  rw [HT.out]
  unfold treeV
  rw [hk]
  have HOWN := Lib.hid hown
  clear hown hk HT
  go_enter Tryz.func25, Tryz.ntmps25
  go_wp2_with (at_builtin; refine wpList_append_lies _ rfl _ _ 22 rfl base 53 i0 _ 7 56 Tryz.underlying22 hi0 hz0 hz1 hz2 rfl (by decide) v acc.length (toksCells acc) (by rfl) ((HOWN.out.alloc _).alloc _) ⟨w.heap.size + 1, 0, none⟩ 1 1 (tokCells ({ kind := 10, text := t.text } : Tk)) (by rfl) (by rfl) (by exact news_here _ (tokCells ({ kind := 10, text := t.text } : Tk)) 53 (w.heap.size + 1) (by simp)) ?c1 (by omega) ?c2 ?c3 ?c4 (w.heap.size + 2) (by simp) ?_)
  case c1 => simp [tokCells, Value.oneCell']
  case c2 => unfold maxLen; omega
  case c3 => omega
  case c4 => simp; omega
  intro gg cap w2 hown2 hgrow2 hat2 hlt2
  have HEND : Hid (LeavesOut base w (acc ++ [({ kind := 10, text := t.text } : Tk)]) (.returned (.slice (some ⟨gg, 0, none⟩) (acc.length + 1) cap)) w2) := ⟨_, rfl, own_snoc rfl hown2, below_grown HOWN.out (((Below.refl _ _).alloc hb _).alloc (by simp; omega) _) hb hgrow2⟩
  clear hown2 hgrow2 hat2
  go_wp2
  go_ret
  exact HEND.out

set_option maxRecDepth 100000 in
set_option maxHeartbeats 1600000 in
theorem leaves_3 (t : Tr) (A : Option Addr) (n c base : Nat) (v : Value) (acc : List Tk) (w : World) (hk : t.kind = 3) (hown : w.ownsRow base 53 7 v acc.length (toksCells acc)) (hb : base ≤ w.heap.size) (hn : acc.length ≤ 100000) :
    Calls Tryz.prog 25 #[treeV t (.slice A n c), v] w fun e w' => LeavesOut base w (acc ++ leavesT t) e w' := by
  obtain ⟨i0, hi0, hz0, hz1, hz2⟩ := info_parts Tryz.infoTok
  have HT : Hid (leavesT t = [({ kind := 11, text := t.text } : Tk)]) := by
    show _ = _
    rw [leavesT_eq, hk]
    rfl
  rw [HT.out]
  unfold treeV
  rw [hk]
  have HOWN := Lib.hid hown
  clear hown hk HT
  go_enter Tryz.func25, Tryz.ntmps25
  go_wp2_with (at_builtin; refine wpList_append_lies _ rfl _ _ 22 rfl base 53 i0 _ 7 56 Tryz.underlying22 hi0 hz0 hz1 hz2 rfl (by decide) v acc.length (toksCells acc) (by rfl) ((HOWN.out.alloc _).alloc _) ⟨w.heap.size + 1, 0, none⟩ 1 1 (tokCells ({ kind := 11, text := t.text } : Tk)) (by rfl) (by rfl) (by exact news_here _ (tokCells ({ kind := 11, text := t.text } : Tk)) 53 (w.heap.size + 1) (by simp)) ?c1 (by omega) ?c2 ?c3 ?c4 (w.heap.size + 2) (by simp) ?_)
  case c1 => simp [tokCells, Value.oneCell']
  case c2 => unfold maxLen; omega
  case c3 => omega
  case c4 => simp; omega
  intro gg cap w2 hown2 hgrow2 hat2 hlt2
  have HEND : Hid (LeavesOut base w (acc ++ [({ kind := 11, text := t.text } : Tk)]) (.returned (.slice (some ⟨gg, 0, none⟩) (acc.length + 1) cap)) w2) := ⟨_, rfl, own_snoc rfl hown2, below_grown HOWN.out (((Below.refl _ _).alloc hb _).alloc (by simp; omega) _) hb hgrow2⟩
  clear hown2 hgrow2 hat2
  go_wp2
  go_ret
  exact HEND.out

set_option maxRecDepth 100000 in
set_option maxHeartbeats 1600000 in
theorem leaves_4 (t : Tr) (A : Option Addr) (n c base : Nat) (v : Value) (acc : List Tk) (w : World) (hk : t.kind = 4) (hown : w.ownsRow base 53 7 v acc.length (toksCells acc)) (hb : base ≤ w.heap.size) (hn : acc.length ≤ 100000) :
    Calls Tryz.prog 25 #[treeV t (.slice A n c), v] w fun e w' => LeavesOut base w (acc ++ leavesT t) e w' := by
  obtain ⟨i0, hi0, hz0, hz1, hz2⟩ := info_parts Tryz.infoTok
  have HT : Hid (leavesT t = [({ kind := 12, lo := t.lo, hi := t.hi } : Tk)]) := by
    show _ = _
    rw [leavesT_eq, hk]
    rfl
  rw [HT.out]
  unfold treeV
  rw [hk]
  have HOWN := Lib.hid hown
  clear hown hk HT
  go_enter Tryz.func25, Tryz.ntmps25
  go_wp2_with (at_builtin; refine wpList_append_lies _ rfl _ _ 22 rfl base 53 i0 _ 7 56 Tryz.underlying22 hi0 hz0 hz1 hz2 rfl (by decide) v acc.length (toksCells acc) (by rfl) ((HOWN.out.alloc _).alloc _) ⟨w.heap.size + 1, 0, none⟩ 1 1 (tokCells ({ kind := 12, lo := t.lo, hi := t.hi } : Tk)) (by rfl) (by rfl) (by exact news_here _ (tokCells ({ kind := 12, lo := t.lo, hi := t.hi } : Tk)) 53 (w.heap.size + 1) (by simp)) ?c1 (by omega) ?c2 ?c3 ?c4 (w.heap.size + 2) (by simp) ?_)
  case c1 => simp [tokCells, Value.oneCell']
  case c2 => unfold maxLen; omega
  case c3 => omega
  case c4 => simp; omega
  intro gg cap w2 hown2 hgrow2 hat2 hlt2
  have HEND : Hid (LeavesOut base w (acc ++ [({ kind := 12, lo := t.lo, hi := t.hi } : Tk)]) (.returned (.slice (some ⟨gg, 0, none⟩) (acc.length + 1) cap)) w2) := ⟨_, rfl, own_snoc rfl hown2, below_grown HOWN.out (((Below.refl _ _).alloc hb _).alloc (by simp; omega) _) hb hgrow2⟩
  clear hown2 hgrow2 hat2
  go_wp2
  go_ret
  exact HEND.out

theorem leaves_kids_snoc {kids : List Tr} {k : Nat} {x : Tr} (h : kids[k]? = some x) : leavesL (kids.take (k + 1)) = leavesL (kids.take k) ++ leavesT x := by
  obtain ⟨hl, e⟩ := List.getElem?_eq_some_iff.1 h
  rw [List.take_succ_eq_append_getElem hl, leavesL_append, leavesL_one, e]
theorem leavesL_take_le (kids : List Tr) (k : Nat) : (leavesL (kids.take k)).length ≤ (leavesL kids).length := by
  conv => rhs; rw [← List.take_append_drop k kids, leavesL_append, List.length_append]
  omega

set_option maxRecDepth 100000 in
set_option maxHeartbeats 3200000 in
theorem leaves_aux {w : World} {S : Nat → Prop} {ks : List Tr} {sl : Value} (h : KidsAt w S ks sl) : ∀ (t : Tr), t.kids = ks → ∀ (base : Nat) (v : Value) (acc : List Tk) (w' : World), w.heap.size ≤ base → base ≤ w'.heap.size → Below w.heap.size w w' → w'.ownsRow base 53 7 v acc.length (toksCells acc) → acc.length + (leavesT t).length ≤ 100000 →
    Calls Tryz.prog 25 #[treeV t sl, v] w' fun e w2 => LeavesOut base w' (acc ++ leavesT t) e w2 := by
  induction h with
  | nil p cap =>
    intro t ht base v acc w' hb0 hb1 hbel hown hn
    by_cases h1 : t.kind = 1
    · exact leaves_1 t _ _ _ base v acc w' h1 hown hb1 (by omega)
    by_cases h2 : t.kind = 2
    · exact leaves_2 t _ _ _ base v acc w' h2 hown hb1 (by omega)
    by_cases h3 : t.kind = 3
    · exact leaves_3 t _ _ _ base v acc w' h3 hown hb1 (by omega)
    by_cases h4 : t.kind = 4
    · exact leaves_4 t _ _ _ base v acc w' h4 hown hb1 (by omega)
    have HT : Hid (leavesT t = []) := by
      show _ = _
      rw [leavesT_eq, if_neg (by omega), ht, leavesL]
    have g1 : (t.kind == 1) = false := by rw [beq_eq_false_iff_ne]; exact h1
    have g2 : (t.kind == 2) = false := by rw [beq_eq_false_iff_ne]; exact h2
    have g3 : (t.kind == 3) = false := by rw [beq_eq_false_iff_ne]; exact h3
    have g4 : (t.kind == 4) = false := by rw [beq_eq_false_iff_ne]; exact h4
    rw [HT.out, List.append_nil]
    have HOWN := Lib.hid hown
    clear h1 h2 h3 h4 hown hn hbel HT ht
    unfold treeV
    go_enter Tryz.func25, Tryz.ntmps25
    go_wp2
    go_loopw [1, 46] (fun l i wr => i = .int .i64 0 ∧ v = l ∧ wr = w'.alloc (.cells #[.int .u8 t.kind, .string (bs t.text), .int .u8 t.lo, .int .u8 t.hi, .int .i64 t.mn, .int .i64 t.mx, .slice p 0 cap] 25)) (fun _ _ _ => 0)
    case atStart => exact ⟨rfl, rfl, rfl⟩
    case round =>
      obtain ⟨rfl, rfl, rfl⟩ := hrel
      go_wp2
      go_ret
      exact ⟨_, rfl, HOWN.out.alloc _, (Below.refl _ _).alloc hb1 _⟩
  | row kids b off cap sls hS hlt hn hcap hm htx hc hk ih =>
    intro t ht base v acc w' hb0 hb1 hbel hown hacc
    by_cases h1 : t.kind = 1
    · exact leaves_1 t _ _ _ base v acc w' h1 hown hb1 (by omega)
    by_cases h2 : t.kind = 2
    · exact leaves_2 t _ _ _ base v acc w' h2 hown hb1 (by omega)
    by_cases h3 : t.kind = 3
    · exact leaves_3 t _ _ _ base v acc w' h3 hown hb1 (by omega)
    by_cases h4 : t.kind = 4
    · exact leaves_4 t _ _ _ base v acc w' h4 hown hb1 (by omega)
    have HT : Hid (leavesT t = leavesL kids) := by
      show _ = _
      rw [leavesT_eq, if_neg (by omega), ht]
    have g1 : (t.kind == 1) = false := by rw [beq_eq_false_iff_ne]; exact h1
    have g2 : (t.kind == 2) = false := by rw [beq_eq_false_iff_ne]; exact h2
    have g3 : (t.kind == 3) = false := by rw [beq_eq_false_iff_ne]; exact h3
    have g4 : (t.kind == 4) = false := by rw [beq_eq_false_iff_ne]; exact h4
    rw [HT.out] at hacc ⊢
    have HACC := Lib.hid hacc
    have HIH : Hid (∀ i x, kids[i]? = some x → ∀ (base : Nat) (v : Value) (acc : List Tk) (w' : World), w.heap.size ≤ base → base ≤ w'.heap.size → Below w.heap.size w w' → w'.ownsRow base 53 7 v acc.length (toksCells acc) → acc.length + (leavesT x).length ≤ 100000 → Calls Tryz.prog 25 #[treeV x (sls i), v] w' fun e w2 => LeavesOut base w' (acc ++ leavesT x) e w2) := by
      intro i x hx
      obtain ⟨hi, he⟩ := List.getElem?_eq_some_iff.1 hx
      subst he
      exact ih i hi _ rfl
    have HC : Hid (∀ i x, kids[i]? = some x → (w.cell? ⟨b, off + i * 7, none⟩ = some (.int .u8 x.kind) ∧ w.cell? ⟨b, off + i * 7 + 1, none⟩ = some (.string (bs x.text)) ∧ w.cell? ⟨b, off + i * 7 + 2, none⟩ = some (.int .u8 x.lo) ∧ w.cell? ⟨b, off + i * 7 + 3, none⟩ = some (.int .u8 x.hi) ∧ w.cell? ⟨b, off + i * 7 + 4, none⟩ = some (.int .i64 x.mn) ∧ w.cell? ⟨b, off + i * 7 + 5, none⟩ = some (.int .i64 x.mx) ∧ w.cell? ⟨b, off + i * 7 + 6, none⟩ = some (sls i)) ∧ ∃ p c, sls i = .slice p x.kids.length c) := by
      intro i x hx
      obtain ⟨hi, he⟩ := List.getElem?_eq_some_iff.1 hx
      subst he
      have key := hc i hi
      obtain ⟨p, c, hp, _⟩ := (hk i hi).form
      exact ⟨⟨key 0 _ rfl, key 1 _ rfl, key 2 _ rfl, key 3 _ rfl, key 4 _ rfl, key 5 _ rfl, key 6 _ rfl⟩, p, c, hp⟩
    have hm' := hm
    unfold maxLen at hm'
    have HW := Lib.hid hbel
    have HOWN := Lib.hid hown
    clear ih hc hk htx hS ht hm hcap h1 h2 h3 h4 hown hbel HT hacc
    generalize hlen : kids.length = n at *
    have HL := Lib.hid hlen
    clear hlen
    have HB0 : Hid (Below base w' (w'.alloc (.cells #[.int .u8 t.kind, .string (bs t.text), .int .u8 t.lo, .int .u8 t.hi, .int .i64 t.mn, .int .i64 t.mx, .slice (some ⟨b, off, none⟩) n cap] 25))) := (Below.refl _ _).alloc hb1 _
    have HO0 : Hid ((w'.alloc (.cells #[.int .u8 t.kind, .string (bs t.text), .int .u8 t.lo, .int .u8 t.hi, .int .i64 t.mn, .int .i64 t.mx, .slice (some ⟨b, off, none⟩) n cap] 25)).ownsRow base 53 7 v acc.length (toksCells acc)) := HOWN.out.alloc _
    unfold treeV
    go_enter Tryz.func25, Tryz.ntmps25
    go_wp2
    generalize w'.alloc (.cells #[.int .u8 t.kind, .string (bs t.text), .int .u8 t.lo, .int .u8 t.hi, .int .i64 t.mn, .int .i64 t.mx, .slice (some ⟨b, off, none⟩) n cap] 25) = W0 at *
    have HO1 : Hid (W0.ownsRow base 53 7 v (acc ++ leavesL (kids.take 0)).length (toksCells (acc ++ leavesL (kids.take 0)))) := by
      show World.ownsRow _ _ _ _ _ _ _
      rw [List.take_zero, leavesL, List.append_nil]
      exact HO0.out
    clear HO0
    go_loopw [1, 46] (fun l i wr => ∃ (k : Nat) (lv : Value), lv = l ∧ k ≤ n ∧ i = .int .i64 k ∧ Hid (wr.ownsRow base 53 7 lv (acc ++ leavesL (kids.take k)).length (toksCells (acc ++ leavesL (kids.take k)))) ∧ Hid (Below base w' wr)) (fun _ i _ => n - (intOf i).toNat)
    case atStart => exact ⟨0, v, rfl, Nat.zero_le _, rfl, HO1, HB0⟩
    case round =>
      obtain ⟨k, lv, rfl, hk, rfl, HO, HBW⟩ := hrel
      by_cases hlt2 : k < n
      · obtain ⟨x, hx⟩ : ∃ x, kids[k]? = some x := ⟨_, List.getElem?_eq_getElem (by rw [HL.out]; exact hlt2)⟩
        obtain ⟨⟨a0, a1, a2, a3, a4, a5, a6⟩, q1, d1, hsl⟩ := HC.out k x hx
        have hWW : Below w.heap.size w wr := HW.out.trans (HBW.out.mono hb0)
        have hcw : ∀ o, wr.cell? ⟨b, o, none⟩ = w.cell? ⟨b, o, none⟩ := fun o => hWW.cell (p := ⟨b, o, none⟩) hlt
        rw [← hcw] at a0 a1 a2 a3 a4 a5 a6
        have hsz : base ≤ wr.heap.size := Nat.le_trans hb1 HBW.out.size
        have HNEW : Hid ((acc ++ leavesL (kids.take k)).length + (leavesT x).length ≤ 100000 ∧ leavesL (kids.take (k + 1)) = leavesL (kids.take k) ++ leavesT x) := by
          have e1 := leaves_kids_snoc hx
          have e2 := leavesL_take_le kids (k + 1)
          rw [e1, List.length_append] at e2
          refine ⟨?_, e1⟩
          rw [List.length_append]
          have := HACC.out
          omega
        have HREC := Lib.hid (fun (W2 : World) h2 h3 h4 => HIH.out k x hx base lv (acc ++ leavesL (kids.take k)) W2 hb0 h2 h3 h4 HNEW.out.1)
        have HWW := Lib.hid hWW
        rw [hsl] at HREC a6
        have hlt' : (k : Int) < n := by omega
        have h0' : (0 : Int) ≤ k := by omega
        unfold treeV at HREC
        clear hx hsl hcw hWW
        generalize x.kids.length = xl at *
        go_wp2_with fail
        refine (HREC.out _ (by simp; omega) (HWW.out.alloc (Nat.le_trans hb0 hsz) _) (HO.out.alloc _)).mono ?_
        rintro e w5 ⟨v5, rfl, ho5, hb5⟩
        have HO5 : Hid (w5.ownsRow base 53 7 v5 (acc ++ leavesL (kids.take (k + 1))).length (toksCells (acc ++ leavesL (kids.take (k + 1))))) := by
          show World.ownsRow _ _ _ _ _ _ _
          rw [HNEW.out.2, ← List.append_assoc]
          exact ho5
        have HB5 : Hid (Below base w' w5) := (HBW.out.alloc hsz _).trans hb5
        clear ho5 hb5 HO HBW a0 a1 a2 a3 a4 a5 a6
        go_wp2
        go_roundw
        case rel => exact ⟨k + 1, v5, rfl, by omega, by go_num, HO5, HB5⟩
        case measure => simp [intOf]; omega
      · obtain rfl : k = n := by omega
        have HE : Hid (LeavesOut base w' (acc ++ leavesL kids) (.returned lv) wr) := by
          have := HO.out
          rw [← HL.out, List.take_length] at this
          exact ⟨_, rfl, this, HBW.out⟩
        go_wp2
        go_ret
        exact HE.out
theorem leaves_any (t : Tr) (sl : Value) (base : Nat) (v : Value) (acc : List Tk) (w w' : World) (h : KidsAt w (· < w.heap.size) t.kids sl) (hb0 : w.heap.size ≤ base) (hb1 : base ≤ w'.heap.size) (hb : Below w.heap.size w w') (hown : w'.ownsRow base 53 7 v acc.length (toksCells acc)) (hn : acc.length + (leavesT t).length ≤ 100000) :
    Calls Tryz.prog 25 #[treeV t sl, v] w' fun e w2 => LeavesOut base w' (acc ++ leavesT t) e w2 := leaves_aux h t rfl base v acc w' hb0 hb1 hb hown hn
end Go.Proofs.YtgbipbjpeecooaaGreatDoor

/-
  Rules in a row in memory, cell by cell. No conditions.
-/
namespace Go.Proofs.YtgbipbjpeecooaaGreatDoor
open Go.RowKit

theorem flatR_at : ∀ (ps : Rrow) (k : Nat) (p : Rl × Value), ps[k]? = some p → ∀ j, j < 10 → (flatR ps)[k * 10 + j]? = (ruleCells p.1 p.2)[j]? := by
  intro ps
  induction ps with
  | nil => intro k p h; simp at h
  | cons a r ih =>
    intro k p h j hj
    have e : flatR (a :: r) = ruleCells a.1 a.2 ++ flatR r := by simp [flatR]
    have hl : (ruleCells a.1 a.2).length = 10 := rfl
    rw [e]
    cases k with
    | zero =>
      have : a = p := by simpa using h
      subst this
      rw [Nat.zero_mul, Nat.zero_add, List.getElem?_append_left (by rw [hl]; exact hj)]
    | succ k =>
      rw [List.getElem?_append_right (by rw [hl]; omega), hl, show (k + 1) * 10 + j - 10 = k * 10 + j from by omega]
      exact ih k p (by simpa using h) j hj
/-- a slice value whose cells are these rules -/
structure RRow (w : World) (v : Value) (ps : Rrow) : Prop where
  row : ∃ (A : Option Addr) (c : Nat), v = .slice A ps.length c ∧ (0 < ps.length → ∃ g off, A = some ⟨g, off, none⟩ ∧ g < w.heap.size ∧ ∀ j u, (flatR ps)[j]? = some u → w.cell? ⟨g, off + j, none⟩ = some u)
  kids : RKids w (· < w.heap.size) ps
theorem RRow.of_own {w : World} {base : Nat} {v : Value} {ps : Rrow} (h : w.ownsRow base 27 10 v ps.length (flatR ps)) (hk : RKids w (· < w.heap.size) ps) : RRow w v ps := by
  refine ⟨?_, hk⟩
  rcases h.2 with ⟨rfl, h0⟩ | ⟨g, cap, cur, rfl, hg, hh, _⟩
  · exact ⟨none, 0, by rw [h0], fun hp => by omega⟩
  · refine ⟨_, cap, rfl, fun _ => ⟨g, 0, rfl, (Array.getElem?_eq_some_iff.1 hh).1, fun j u hu => ?_⟩⟩
    have := h.cells (g := g) rfl j u hu
    have hadd : (⟨g, 0, none⟩ : Addr).add j = ⟨g, 0 + j, none⟩ := by unfold Addr.add; split <;> simp_all
    rw [hadd] at this
    exact this
theorem RRow.below {w w' : World} {v : Value} {ps : Rrow} (h : RRow w v ps) (hb : Below w.heap.size w w') : RRow w' v ps := by
  obtain ⟨⟨A, c, hv, hA⟩, hk⟩ := h
  refine ⟨⟨A, c, hv, fun hp => ?_⟩, fun p hp => ⟨((hk p hp).1.under hb).mono (fun b hl _ => hl), (hk p hp).2⟩⟩
  obtain ⟨g, off, rfl, hg, hc⟩ := hA hp
  exact ⟨g, off, rfl, by have := hb.size; omega, fun j u hu => (hb.cell (p := ⟨g, off + j, none⟩) hg).trans (hc j u hu)⟩
/-- one rule's cells -/
theorem RRow.at_ {w : World} {A : Option Addr} {n c : Nat} {ps : Rrow} (h : RRow w (.slice A n c) ps) {k : Nat} {p : Rl × Value} (hp : ps[k]? = some p) :
    ∃ g off, A = some ⟨g, off, none⟩ ∧ g < w.heap.size ∧ w.cell? ⟨g, off + k * 10, none⟩ = some (.string (bs p.1.name)) ∧ w.cell? ⟨g, off + k * 10 + 1, none⟩ = some (.int .i64 p.1.place) ∧ w.cell? ⟨g, off + k * 10 + 2, none⟩ = some (.bool p.1.more) ∧ w.cell? ⟨g, off + k * 10 + 3, none⟩ = some (.int .u8 p.1.tree.kind) ∧
      w.cell? ⟨g, off + k * 10 + 4, none⟩ = some (.string (bs p.1.tree.text)) ∧ w.cell? ⟨g, off + k * 10 + 5, none⟩ = some (.int .u8 p.1.tree.lo) ∧ w.cell? ⟨g, off + k * 10 + 6, none⟩ = some (.int .u8 p.1.tree.hi) ∧ w.cell? ⟨g, off + k * 10 + 7, none⟩ = some (.int .i64 p.1.tree.mn) ∧ w.cell? ⟨g, off + k * 10 + 8, none⟩ = some (.int .i64 p.1.tree.mx) ∧ w.cell? ⟨g, off + k * 10 + 9, none⟩ = some p.2 ∧
      KidsAt w (· < w.heap.size) p.1.tree.kids p.2 := by
  obtain ⟨⟨A', c', hv, hA⟩, hk⟩ := h
  injection hv with h1 h2 h3
  subst h1
  obtain ⟨hlt, _⟩ := List.getElem?_eq_some_iff.1 hp
  obtain ⟨g, off, rfl, hg, hc⟩ := hA (by omega)
  have key : ∀ j u, (ruleCells p.1 p.2)[j]? = some u → j < 10 → w.cell? ⟨g, off + k * 10 + j, none⟩ = some u := fun j u hu hj => by
    rw [Nat.add_assoc]
    exact hc _ u (by rw [flatR_at ps k p hp j hj, hu])
  exact ⟨g, off, rfl, hg, key 0 _ rfl (by omega), key 1 _ rfl (by omega), key 2 _ rfl (by omega), key 3 _ rfl (by omega), key 4 _ rfl (by omega), key 5 _ rfl (by omega), key 6 _ rfl (by omega), key 7 _ rfl (by omega), key 8 _ rfl (by omega), key 9 _ rfl (by omega), (hk p (List.mem_of_getElem? hp)).1⟩

end Go.Proofs.YtgbipbjpeecooaaGreatDoor

/-
  The contract of frankinglow's Rules where the two lists are the same (but for places, if no is told): it answers true. Conditions: both lie in memory; at most 200000 rules.
-/
namespace Go.Proofs.YtgbipbjpeecooaaGreatDoor
open Go.RowKit

/-- one operation more, the ones behind it out of sight: a guarded operation that is not run makes the goal itself unfold on and on -/
theorem wpStill_next {P : Program} {ops : Array Oper} {w : World} {Q : Act → Prop} {K : Act → Prop} {rest : List Oper} {a : Act} (hK : ∀ a, wpStill P ops w Q rest a → K a) (h : ∀ L, Hid (L = rest) → wpStill P ops w Q L a) : K a := hK a (h rest (show _ = _ from rfl))
theorem wpStill_open {P : Program} {ops : Array Oper} {w : World} {Q : Act → Prop} {L rest : List Oper} {o : Oper} {a : Act} (HL : Hid (L = o :: rest))
    (h : ∀ K : Act → Prop, (∀ a, wpStill P ops w Q rest a → K a) → if Region.wanted o (yielded ops a.tmps) then o.still P a w K else K (a.put o.dst undef)) : wpStill P ops w Q L a := by
  rw [HL.out]
  exact wpStill_step h
theorem wpStill_shut {P : Program} {ops : Array Oper} {w : World} {Q : Act → Prop} {L : List Oper} {a : Act} (HL : Hid (L = [])) (h : Q a) : wpStill P ops w Q L a := by
  rw [HL.out]
  exact h

/-- the same rule, with its place or without -/
def SameR (pl : Bool) (x y : Rl) : Prop := x.name = y.name ∧ x.more = y.more ∧ x.tree = y.tree ∧ (pl = true → x.place = y.place)

set_option maxRecDepth 100000 in
set_option maxHeartbeats 2000000 in
theorem Rules_same (a b : Value) (xs ys : Rrow) (pl : Bool) (w : World) (hn : xs.length ≤ 200000) (hl : xs.length = ys.length) (hs : ∀ (i : Nat) (x y : Rl × Value), xs[i]? = some x → ys[i]? = some y → SameR pl x.1 y.1) (ha : RRow w a xs) (hb : RRow w b ys) :
    Calls Tryz.prog 14 #[a, b, .bool pl] w fun e w' => e = .returned (.bool true) ∧ Below w.heap.size w w' := by
  obtain ⟨A, c, rfl, _⟩ := ha.row
  obtain ⟨B, d, rfl, _⟩ := hb.row
  rw [← hl] at hb ⊢
  have HS := Lib.hid hs
  have HLY := Lib.hid hl
  have HA := Lib.hid ha
  have HB := Lib.hid hb
  clear ha hb hs hl
  generalize hlen : xs.length = n at *
  have HL := Lib.hid hlen
  clear hlen
  go_enter Tryz.func14, Tryz.ntmps14
  go_wp2
  go_loopw [7, 15] (fun _ i wr => ∃ k : Nat, k ≤ n ∧ i = .int .i64 k ∧ Below w.heap.size w wr) (fun _ i _ => n - (intOf i).toNat)
  case atStart => exact ⟨0, Nat.zero_le _, rfl, Below.refl _ _⟩
  case round =>
    obtain ⟨k, hk, rfl, hbel⟩ := hrel
    by_cases hlt : k < n
    · obtain ⟨x, hx⟩ : ∃ x, xs[k]? = some x := ⟨_, List.getElem?_eq_getElem (by rw [HL.out]; exact hlt)⟩
      obtain ⟨y, hy⟩ : ∃ y, ys[k]? = some y := ⟨_, List.getElem?_eq_getElem (by rw [← HLY.out]; exact hlt)⟩
      obtain ⟨s1, s2, s3, s4⟩ := HS.out k x y hx hy
      obtain ⟨⟨xn, xp, xm, xt⟩, xv⟩ := x
      obtain ⟨⟨yn, yp, ym, yt⟩, yv⟩ := y
      simp only at s1 s2 s3 s4
      subst s1 s2 s3
      obtain ⟨g, off, rfl, hg, a0, a1, a2, a3, a4, a5, a6, a7, a8, a9, ka⟩ := (HA.out.below hbel).at_ hx
      obtain ⟨g', off', rfl, hg', b0, b1, b2, b3, b4, b5, b6, b7, b8, b9, kb⟩ := (HB.out.below hbel).at_ hy
      dsimp only at a0 a1 a2 a3 a4 a5 a6 a7 a8 a9 ka b0 b1 b2 b3 b4 b5 b6 b7 b8 b9 kb
      have HT := Lib.hid (Trees_same xt xv yv wr.drew ka.drew_ kb.drew_)
      obtain ⟨q1, d1, rfl, _⟩ := ka.form
      obtain ⟨q2, d2, rfl, _⟩ := kb.form
      have hlt' : (k : Int) < n := by omega
      have h0' : (0 : Int) ≤ k := by omega
      unfold treeV at HT
      generalize xt.kids.length = xl at *
      clear hx hy ka kb
      have HBEL := Lib.hid hbel
      clear hbel
      cases pl with
      | true =>
        have hpp := s4 rfl
        subst hpp
        clear s4
        go_wp2
        go_still_tail 51, (by kernel_rfl)
        go_wp2_with fail
        refine HT.out.mono ?_
        rintro e w5 ⟨rfl, hb5⟩
        have hbel5 : Below w.heap.size w w5 := HBEL.out.drew.trans (hb5.mono HBEL.out.size)
        clear a0 a1 a2 a3 a4 a5 a6 a7 a8 a9 b0 b1 b2 b3 b4 b5 b6 b7 b8 b9
        go_wp2
        go_roundw
        case rel => exact ⟨k + 1, by omega, by go_num, hbel5⟩
        case measure => simp [intOf]; omega
      | false =>
        clear s4
        go_wp2
        refine wp_region_still_tail 51 (by kernel_rfl) (by kernel_rfl) ?_
        simp only [List.take_succ_cons, List.take_zero, List.drop_succ_cons, List.drop_zero]
        iterate 25 still_step
        refine wpStill_step (fun K hK => ?_)
        go_simp
        refine wpStill_next hK (fun L HL => ?_)
        clear hK K
        iterate 25 (refine wpStill_open HL (fun K hK => ?_); clear HL; go_simp; refine wpStill_next hK (fun L HL => ?_); clear hK K)
        refine wpStill_shut HL ?_
        clear HL
        go_wp2_with fail
        refine HT.out.mono ?_
        rintro e w5 ⟨rfl, hb5⟩
        have hbel5 : Below w.heap.size w w5 := HBEL.out.drew.trans (hb5.mono HBEL.out.size)
        clear a0 a1 a2 a3 a4 a5 a6 a7 a8 a9 b0 b1 b2 b3 b4 b5 b6 b7 b8 b9
        go_wp2
        go_roundw
        case rel => exact ⟨k + 1, by omega, by go_num, hbel5⟩
        case measure => simp [intOf]; omega
    · go_wp2
      go_ret
      exact ⟨rfl, hbel⟩
end Go.Proofs.YtgbipbjpeecooaaGreatDoor
