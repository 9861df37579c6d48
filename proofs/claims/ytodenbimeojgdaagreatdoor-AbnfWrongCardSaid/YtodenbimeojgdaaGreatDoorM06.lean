/-
  Merged texts (RdT, RdU, PrI, BkL, BkT, BkP, GrP), each under a head of its own that says what it proves and under which conditions.
-/
import Derived.Test.YtodenbimeojgdaaGreatDoorM05
import Derived.Test.YtodenbimeojgdaaGreatDoorM04
import Derived.Test.YtodenbimeojgdaaGreatDoorM03
/-
  The contract of the parser's rule. Conditions: the reader, the tokens and the table of leaves lie in memory; texts of at most 65536 bytes; a token stands next.
-/
namespace Go.Proofs.YtodenbimeojgdaaGreatDoor
open Go.RowKit

def ruleV (x : Rl) (sl : Value) : Value := .agg #[.string (bs x.name), .int .i64 x.place, .bool x.more, .int .u8 x.tree.kind, .string (bs x.tree.text), .int .u8 x.tree.lo, .int .u8 x.tree.hi, .int .i64 x.tree.mn, .int .i64 x.tree.mx, sl]
def noRule : Rl := { name := [], place := 0, more := false, tree := noTree }
def RuleVal (ex : List Nat) (r : Nat) : Option Rl → Ending → World → Prop
  | none, e, _ => e = .returned (.tuple #[ruleV noRule noKids, .bool false])
  | some x, e, w' => ∃ sl, e = .returned (.tuple #[ruleV x sl, .bool true]) ∧ KidsAt w' (fun b => b ∉ ex ∧ b ≠ r) x.tree.kids sl ∧ x.tree.text.length ≤ maxLen
def RuleOut (w : World) (r : Nat) (ex : List Nat) (A : Option Addr) (n c : Nat) (toks : List Tk) (R : Option Rl × Nat) (e : Ending) (w' : World) : Prop :=
  (∃ vo, Rd w' r A n c toks R.2 vo) ∧ Only r w w' ∧ RuleVal ex r R.1 e w'

/-- a rule stored, cell by cell -/
def put10 (w : World) (b : Nat) (x : Rl) (sl : Value) : World :=
  (((((((((w.setCell ⟨b, 0, none⟩ (.string (bs x.name))).setCell ⟨b, 1, none⟩ (.int .i64 x.place)).setCell ⟨b, 2, none⟩ (.bool x.more)).setCell ⟨b, 3, none⟩ (.int .u8 x.tree.kind)).setCell ⟨b, 4, none⟩ (.string (bs x.tree.text))).setCell ⟨b, 5, none⟩ (.int .u8 x.tree.lo)).setCell ⟨b, 6, none⟩ (.int .u8 x.tree.hi)).setCell ⟨b, 7, none⟩ (.int .i64 x.tree.mn)).setCell ⟨b, 8, none⟩ (.int .i64 x.tree.mx)).setCell ⟨b, 9, none⟩ sl
theorem put10_only (w : World) (b : Nat) (x : Rl) (sl : Value) : Only b w (put10 w b x sl) := by
  unfold put10
  iterate 10 refine Only.set ?_ _ _
  exact Only.refl _ _
theorem put10_size (w : World) (b : Nat) (x : Rl) (sl : Value) : (put10 w b x sl).heap.size = w.heap.size := by
  unfold put10
  simp [World.setCell]
theorem put10_of {r : Nat} {w w2 : World} (h : Only r w w2) (x : Rl) (sl : Value) : Only r w (put10 w2 w.heap.size x sl) := by
  have hp := put10_only w2 w.heap.size x sl
  exact ⟨hp.os.trans h.os, hp.tape.trans h.tape, hp.output.trans h.output, Nat.le_trans h.size hp.size, fun k hk hr => (hp.block k (Nat.lt_of_lt_of_le hk h.size) (fun e => by have := Option.some.inj e; omega)).trans (h.block k hk hr)⟩
theorem put10_rd {w2 : World} {B r : Nat} {A : Option Addr} {n c : Nat} {toks : List Tk} {at_ : Nat} {vo : Value} (h : Rd w2 r A n c toks at_ vo) (hr : r < B) (x : Rl) (sl : Value) : Rd (put10 w2 B x sl) r A n c toks at_ vo := by
  have hp := put10_only w2 B x sl
  by_cases hB : B ≤ w2.heap.size
  · exact h.under ⟨hp.os, hp.tape, hp.output, hp.size, fun k hk => hp.block k (by omega) (fun e => by have := Option.some.inj e; omega)⟩ hr
  · exact h.later ⟨hp.os, hp.tape, hp.output, hp.size, fun k hk => hp.block k hk (fun e => by have := Option.some.inj e; omega)⟩
theorem ruleOut_none {w w2 : World} {r : Nat} {ex : List Nat} {A : Option Addr} {n c : Nat} {toks : List Tk} {at2 : Nat} {vo : Value} {R : Option Rl × Nat} (hR : R = (none, at2)) (hrd : Rd w2 r A n c toks at2 vo) (ho : Only r w w2) (hr : r < w.heap.size) : RuleOut w r ex A n c toks R (.returned (.tuple #[ruleV noRule noKids, .bool false])) (put10 w2 w.heap.size noRule (.slice none 0 0)) := by
  subst hR
  exact ⟨⟨vo, put10_rd hrd hr _ _⟩, put10_of ho _ _, rfl⟩
theorem RuleOut.later_none {w w1 w' : World} {r : Nat} {ex : List Nat} {A : Option Addr} {n c : Nat} {toks : List Tk} {at2 : Nat} {R : Option Rl × Nat} {e : Ending} (hR : R = (none, at2)) (h : RuleOut w r ex A n c toks R e w1) (hb : Below w1.heap.size w1 w') : RuleOut w r ex A n c toks R e w' := by
  subst hR
  obtain ⟨⟨vo, hrd⟩, ho, hv⟩ := h
  exact ⟨⟨vo, hrd.later hb⟩, ho.trans (Only.of_below hb), hv⟩

set_option maxRecDepth 100000 in
set_option maxHeartbeats 1600000 in
theorem rule_any (w : World) (r : Nat) (ex : List Nat) (A : Option Addr) (n c : Nat) (toks : List Tk) (at_ : Nat) (vo : Value) (h : Rd w r A n c toks at_ vo) (hlv : LeavesAt w) (hgr : 3 < r) (hx : r ∉ ex) (hex : ∀ b ∈ ex, b < w.heap.size) (hsh : Short toks) (hat : at_ < n) :
    Calls Tryz.prog 29 #[.pointer (some ⟨r, 0, none⟩)] w fun e w' => RuleOut w r ex A n c toks (ruleP toks at_) e w' := by
  have HRP : Hid (ruleP toks at_ = match leafP toks at_ [1] with | none => (none, at_) | some n => if standsP toks (at_ + 1) [2, 3] = true then (match choicesP toks (at_ + 2) with | (none, at2) => (none, at2) | (some t, at2) => (some { name := n.text, place := placeP toks at_, more := standsP toks (at_ + 1) [3], tree := t }, at2)) else (none, at_ + 1)) := by
    show ruleP toks at_ = _
    unfold ruleP
    cases leafP toks at_ [1] <;> rfl
  generalize ruleP toks at_ = R at *
  have hrl := h.blk.lt
  have hlen := h.len
  have hmost := h.most
  have hb0 : Below w.heap.size w (w.alloc (.cells #[.string ⟨#[]⟩, .int .i64 0, .bool false, .int .u8 0, .string ⟨#[]⟩, .int .u8 0, .int .u8 0, .int .i64 0, .int .i64 0, .slice none 0 0] 27)) := (Below.refl _ _).alloc (Nat.le_refl _) _
  have hB0 : Blk (w.alloc (.cells #[.string ⟨#[]⟩, .int .i64 0, .bool false, .int .u8 0, .string ⟨#[]⟩, .int .u8 0, .int .u8 0, .int .i64 0, .int .i64 0, .slice none 0 0] 27)) w.heap.size 27 #[.string ⟨#[]⟩, .int .i64 0, .bool false, .int .u8 0, .string ⟨#[]⟩, .int .u8 0, .int .u8 0, .int .i64 0, .int .i64 0, .slice none 0 0] := Blk.new _ _ _
  have HPL := Lib.hid (place_any _ r A n c toks at_ vo (h.later hb0) (by omega))
  generalize placeP toks at_ = PL at *
  have H := Lib.hid h
  have HLV := Lib.hid hlv
  have HX := Lib.hid hx
  have HEX := Lib.hid hex
  have HSH := Lib.hid hsh
  have HLEN := Lib.hid hlen
  have HLT := Lib.hid (fun t (ht : leafP toks at_ [1] = some t) => leafP_tree ht hsh)
  have HLF := Lib.hid (fun (W' : World) (hrd : Rd W' r A n c toks at_ vo) (hl : LeavesAt W') => leaf_any (W'.alloc (.cells #[.int .u8 1] 5)) r A n c toks at_ vo (hrd.later ((Below.refl _ _).alloc (Nat.le_refl _) _)) (hl.below ((Below.refl _ _).alloc (Nat.le_refl _) _) hl.lt) hgr hsh W'.heap.size 1 [1] (kinds_new W' [1] #[.int .u8 1] rfl 5) (by simp) (fun k hk => by simp at hk; exact .inl hk))
  clear h hlv hx hex hsh hlen
  go_enter Tryz.func29, Tryz.ntmps29
  go_wp2_with fail
  refine HPL.out.mono ?_
  rintro e w1 ⟨rfl, hb1⟩
  have hbw1 : Below w.heap.size w w1 := hb0.trans (hb1.mono hb0.size)
  have hB1 := hB0.below hb1 hB0.lt
  have HB1 := Lib.hid hB1
  have HBW1 := Lib.hid hbw1
  have hrd1 := H.out.later hbw1
  have hlv1 := HLV.out.below hbw1 HLV.out.lt
  have HRD1 := Lib.hid hrd1
  have HLV1 := Lib.hid hlv1
  have hz1 := hbw1.size
  have hBlt1 := hB1.lt
  clear hb0 hB0 hb1 hB1 hbw1 HPL hrd1 hlv1
  have hR := HRP.out
  clear HRP
  generalize leafP toks at_ [1] = LP at *
  cases LP with
  | none =>
    have HR2 : Hid (R = (none, at_)) := hR
    clear hR
    rw [show leafV none = .tuple #[.agg #[.int .u8 0, .string ⟨#[]⟩, .int .u8 0, .int .u8 0, .int .i64 0, .int .i64 0, .slice none 0 0], .bool false] from rfl] at HLF
    go_wp2_with fail
    refine (HLF.out w1 HRD1.out HLV1.out).mono ?_
    rintro e w2 ⟨rfl, hrd2, ho2⟩
    have ho12 : Only r w1 w2 := (Only.of_below ((Below.refl _ _).alloc (Nat.le_refl _) _)).trans ho2
    have hB2 : Blk w2 w.heap.size 27 #[.string ⟨#[]⟩, .int .i64 0, .bool false, .int .u8 0, .string ⟨#[]⟩, .int .u8 0, .int .u8 0, .int .i64 0, .int .i64 0, .slice none 0 0] := (ho12.block _ HB1.out.lt (fun e => by have := Option.some.inj e; omega)).trans HB1.out
    have hcB := hB2.cell
    have hfB := hB2.frozen
    have hBlt := hB2.lt
    have how2 : Only r w w2 := (Only.of_below HBW1.out).trans ho12
    have HRD2 := Lib.hid hrd2
    have HOW := Lib.hid how2
    clear hB2 ho2 ho12 how2 hrd2 HLF
    go_wp2
    refine bodyPost_ret (v := .tuple #[ruleV noRule noKids, .bool false]) ?_ rfl ?_
    · simp [results, Tryz.results29, go_sem, hcB, hBlt]
      rfl
    · have hO := ruleOut_none (ex := ex) HR2.out HRD2.out HOW.out hrl
      have hO2 := hO.later_none HR2.out ((Below.refl _ _).alloc (Nat.le_refl _) (.cells #[.int .u8 0, .string ⟨#[]⟩, .int .u8 0, .int .u8 0, .int .i64 0, .int .i64 0, .slice none 0 0] 25))
      unfold put10 at hO2
      exact hO2
  | some nm =>
    have htk := HLT.out nm rfl
    rw [show leafV (some nm) = .tuple #[.agg #[.int .u8 nm.kind, .string (bs nm.text), .int .u8 nm.lo, .int .u8 nm.hi, .int .i64 nm.mn, .int .i64 nm.mx, .slice none 0 0], .bool true] from rfl] at HLF
    rw [show leafTo at_ (some nm) = at_ + 1 from rfl] at HLF
    simp only at hR
    have hS23 : ∀ q, standsP toks (at_ + 1) [2, 3] = q → R = if q = true then (match choicesP toks (at_ + 2) with | (none, at2) => (none, at2) | (some t, at2) => (some { name := nm.text, place := PL, more := standsP toks (at_ + 1) [3], tree := t }, at2)) else (none, at_ + 1) := fun q hq => by rw [← hq]; exact hR
    have HS23 := Lib.hid hS23
    have HSTD := Lib.hid (fun (W' : World) (v2 : Value) (hrd : Rd W' r A n c toks (at_ + 1) v2) q hq => stands_at _ r A n c toks (at_ + 1) v2 (hrd.later ((Below.refl W'.heap.size W').alloc (Nat.le_refl _) (.cells #[.int .u8 2, .int .u8 3] 5))) W'.heap.size 2 2 [2, 3] (kinds_new W' [2, 3] #[.int .u8 2, .int .u8 3] rfl 5) rfl (by omega) q hq)
    have HSTM := Lib.hid (fun (W' : World) (v2 : Value) (hrd : Rd W' r A n c toks (at_ + 1) v2) => stands_at _ r A n c toks (at_ + 1) v2 (hrd.later ((Below.refl W'.heap.size W').alloc (Nat.le_refl _) (.cells #[.int .u8 3] 5))) W'.heap.size 1 1 [3] (kinds_new W' [3] #[.int .u8 3] rfl 5) rfl (by omega) _ rfl)
    have HCH := Lib.hid (fun (W' : World) (v2 : Value) (ex' : List Nat) (hrd : Rd W' r A n c toks (at_ + 2) v2) hl hx' hex' => choices_any W' r ex' A n c toks (at_ + 2) v2 hrd hl hgr hx' hex' HSH.out)
    have HLT2 := Lib.hid (fun (q : Bool) (ks : List Int) (hq : standsP toks (at_ + 1) ks = true) => standsP_lt hq)
    clear hR hS23
    generalize standsP toks (at_ + 1) [3] = mo at *
    go_wp2_with fail
    refine (HLF.out w1 HRD1.out HLV1.out).mono ?_
    rintro e w2 ⟨rfl, hrd2, ho2⟩
    have ho12 : Only r w1 w2 := (Only.of_below ((Below.refl _ _).alloc (Nat.le_refl _) _)).trans ho2
    have hB2 : Blk w2 w.heap.size 27 #[.string ⟨#[]⟩, .int .i64 0, .bool false, .int .u8 0, .string ⟨#[]⟩, .int .u8 0, .int .u8 0, .int .i64 0, .int .i64 0, .slice none 0 0] := (ho12.block _ HB1.out.lt (fun e => by have := Option.some.inj e; omega)).trans HB1.out
    have how2 : Only r w w2 := (Only.of_below HBW1.out).trans ho12
    -- the name in a block of its own
    have hb3 : Below w2.heap.size w2 (w2.alloc (.cells #[.int .u8 nm.kind, .string (bs nm.text), .int .u8 nm.lo, .int .u8 nm.hi, .int .i64 nm.mn, .int .i64 nm.mx, .slice none 0 0] 25)) := (Below.refl _ _).alloc (Nat.le_refl _) _
    have hrd3 := hrd2.later hb3
    have hB3 := hB2.below hb3 hB2.lt
    have hN3 : Blk (w2.alloc (.cells #[.int .u8 nm.kind, .string (bs nm.text), .int .u8 nm.lo, .int .u8 nm.hi, .int .i64 nm.mn, .int .i64 nm.mx, .slice none 0 0] 25)) w2.heap.size 25 #[.int .u8 nm.kind, .string (bs nm.text), .int .u8 nm.lo, .int .u8 nm.hi, .int .i64 nm.mn, .int .i64 nm.mx, .slice none 0 0] := Blk.new _ _ _
    have how3 := how2.trans (Only.of_below hb3)
    have hR0lt := hB2.lt
    have hrl2 := hrd2.blk.lt
    have HRD3 := Lib.hid hrd3
    have HB3 := Lib.hid hB3
    have HN3 := Lib.hid hN3
    have HOW3 := Lib.hid how3
    have hT5 : w.heap.size < w2.heap.size := hR0lt
    clear hb3 hrd3 hB3 hN3 how3 hrd2 hB2 ho2 ho12 how2 HLF HRD1 HLV1 HB1 HBW1
    have HSTQ := Lib.hid (fun q hq => HSTD.out (w2.alloc (.cells #[.int .u8 nm.kind, .string (bs nm.text), .int .u8 nm.lo, .int .u8 nm.hi, .int .i64 nm.mn, .int .i64 nm.mx, .slice none 0 0] 25)) vo HRD3.out q hq)
    rw [show (w2.alloc (.cells #[.int .u8 nm.kind, .string (bs nm.text), .int .u8 nm.lo, .int .u8 nm.hi, .int .i64 nm.mn, .int .i64 nm.mx, .slice none 0 0] 25)).heap.size = w2.heap.size + 1 from by simp] at HSTQ
    clear HSTD
    go_wp2_with fail
    generalize w2.alloc (.cells #[.int .u8 nm.kind, .string (bs nm.text), .int .u8 nm.lo, .int .u8 nm.hi, .int .i64 nm.mn, .int .i64 nm.mx, .slice none 0 0] 25) = W3 at *
    generalize w2.heap.size = T5 at *
    cases hq : standsP toks (at_ + 1) [2, 3] with
    | false =>
      have HR2 : Hid (R = (none, at_ + 1)) := HS23.out false hq
      have HST := Lib.hid (HSTQ.out false hq)
      clear HS23 HSTQ HSTM HCH hq
      refine HST.out.mono ?_
      rintro e w4 ⟨rfl, m4, rfl⟩
      have hb4 : Below W3.heap.size W3 ((W3.alloc (.cells #[.int .u8 2, .int .u8 3] 5)).drewN m4) := below_drewN ((Below.refl _ _).alloc (Nat.le_refl _) _) _
      have HRD4 := Lib.hid (HRD3.out.later hb4)
      have HOW4 := Lib.hid (HOW3.out.trans (Only.of_below hb4))
      have hB4 := HB3.out.below hb4 HB3.out.lt
      generalize (W3.alloc (.cells #[.int .u8 2, .int .u8 3] 5)).drewN m4 = W4 at *
      have hcB := hB4.cell
      have hfB := hB4.frozen
      have hBlt := hB4.lt
      clear hB4 hb4
      go_wp2
      refine bodyPost_ret (v := .tuple #[ruleV noRule noKids, .bool false]) ?_ rfl ?_
      · simp [results, Tryz.results29, go_sem, hcB]
        rfl
      · have hO := ruleOut_none (ex := ex) HR2.out HRD4.out HOW4.out hrl
        unfold put10 at hO
        exact hO
    | true =>
      have hlt1 : at_ + 1 < n := by have := HLT2.out true [2, 3] hq; rw [HLEN.out] at this; exact this
      have HR3 : Hid (R = (match choicesP toks (at_ + 2) with | (none, at2) => (none, at2) | (some t, at2) => (some { name := nm.text, place := PL, more := mo, tree := t }, at2))) := HS23.out true hq
      have HST := Lib.hid (HSTQ.out true hq)
      clear HS23 HSTQ hq HLT2
      refine HST.out.mono ?_
      rintro e w4 ⟨rfl, m4, rfl⟩
      have hb4 : Below W3.heap.size W3 ((W3.alloc (.cells #[.int .u8 2, .int .u8 3] 5)).drewN m4) := below_drewN ((Below.refl _ _).alloc (Nat.le_refl _) _) _
      have HRD4 := Lib.hid (HRD3.out.later hb4)
      have HOW4 := Lib.hid (HOW3.out.trans (Only.of_below hb4))
      have HB4 := Lib.hid (HB3.out.below hb4 HB3.out.lt)
      have HN4 := Lib.hid (HN3.out.below hb4 HN3.out.lt)
      generalize (W3.alloc (.cells #[.int .u8 2, .int .u8 3] 5)).drewN m4 = W4 at *
      clear hb4 HRD3 HOW3 HB3 HN3 HST
      go_wp2_with fail
      refine (HSTM.out W4 vo HRD4.out).mono ?_
      rintro e w5 ⟨rfl, m5, rfl⟩
      have hb5 : Below W4.heap.size W4 ((W4.alloc (.cells #[.int .u8 3] 5)).drewN m5) := below_drewN ((Below.refl _ _).alloc (Nat.le_refl _) _) _
      have hrd5 := HRD4.out.later hb5
      have how5 := HOW4.out.trans (Only.of_below hb5)
      have hB5 := HB4.out.below hb5 HB4.out.lt
      have hN5 := HN4.out.below hb5 HN4.out.lt
      generalize (W4.alloc (.cells #[.int .u8 3] 5)).drewN m5 = W5 at *
      clear hb5 HRD4 HOW4 HB4 HN4 HSTM
      have hcr5 := hrd5.blk.cell
      have hfr5 := hrd5.blk.frozen
      have ho6 : Only r W5 (W5.setCell ⟨r, 1, none⟩ (.int .i64 ((at_ : Int) + 1 + 1))) := (Only.refl r W5).set 1 _
      have hrd6 : Rd (W5.setCell ⟨r, 1, none⟩ (.int .i64 ((at_ : Int) + 1 + 1))) r A n c toks (at_ + 2) vo := by
        refine hrd5.to ho6 ?_ (by omega)
        have := hrd5.blk.set_ 1 (.int .i64 ((at_ : Int) + 1 + 1))
        rw [show ((at_ + 2 : Nat) : Int) = (at_ : Int) + 1 + 1 from by omega]
        exact this
      have how6 := how5.trans ho6
      have hlv6 := HLV.out.only how6 hgr
      have hB6 := hB5.other (p := ⟨r, 1, none⟩) (by simp only; omega) (.int .i64 ((at_ : Int) + 1 + 1))
      have hN6 := hN5.other (p := ⟨r, 1, none⟩) (by simp only; omega) (.int .i64 ((at_ : Int) + 1 + 1))
      have HCH6 := Lib.hid (HCH.out _ vo (w.heap.size :: T5 :: ex) hrd6 hlv6 (fun hin => by
        rcases List.mem_cons.1 hin with e | hin
        · omega
        · rcases List.mem_cons.1 hin with e | hin
          · omega
          · exact HX.out hin) (fun b hin => by
        rcases List.mem_cons.1 hin with e | hin
        · rw [e]; exact hB6.lt
        · rcases List.mem_cons.1 hin with e | hin
          · rw [e]; exact hN6.lt
          · have := HEX.out b hin; have := how6.size; omega))
      have HB6 := Lib.hid hB6
      have HN6 := Lib.hid hN6
      have HOW6 := Lib.hid how6
      clear HCH hB6 hN6 hrd6 hlv6 how6 how5 hB5 hN5 hrd5 ho6
      have hR4 := HR3.out
      clear HR3
      generalize choicesP toks (at_ + 2) = CP at *
      obtain ⟨o, at2⟩ := CP
      go_wp2_with fail
      refine HCH6.out.mono ?_
      rintro e w7 ⟨⟨v7, hrd7⟩, ho7, hval⟩
      have hrd7' : Rd w7 r A n c toks at2 v7 := hrd7
      have hB7 := (ho7.block w.heap.size HB6.out.lt (fun e => by have := Option.some.inj e; omega)).trans HB6.out
      have hB7 : Blk w7 w.heap.size 27 #[.string ⟨#[]⟩, .int .i64 0, .bool false, .int .u8 0, .string ⟨#[]⟩, .int .u8 0, .int .u8 0, .int .i64 0, .int .i64 0, .slice none 0 0] := hB7
      have hN7 : Blk w7 T5 25 #[.int .u8 nm.kind, .string (bs nm.text), .int .u8 nm.lo, .int .u8 nm.hi, .int .i64 nm.mn, .int .i64 nm.mx, .slice none 0 0] := (ho7.block T5 HN6.out.lt (fun e => by have := Option.some.inj e; omega)).trans HN6.out
      have how7 := HOW6.out.trans ho7
      have hcB := hB7.cell
      have hfB := hB7.frozen
      have hBlt := hB7.lt
      have hcN := hN7.cell
      have hNlt := hN7.lt
      have HRD7 := Lib.hid hrd7'
      have HOW7 := Lib.hid how7
      clear hcr5 hfr5 hrd7 hrd7' ho7 how7 hB7 hN7 HB6 HN6 HOW6 HCH6
      cases o with
      | none =>
        have HR5 : Hid (R = (none, at2)) := hR4
        have hval' : e = .returned (.tuple #[.agg #[.int .u8 0, .string ⟨#[]⟩, .int .u8 0, .int .u8 0, .int .i64 0, .int .i64 0, .slice none 0 0], .bool false]) := hval
        subst hval'
        clear hR4 hval
        go_wp2
        refine bodyPost_ret (v := .tuple #[ruleV noRule noKids, .bool false]) ?_ rfl ?_
        · simp [results, Tryz.results29, go_sem, hcB, hBlt]
          rfl
        · have hO := ruleOut_none (ex := ex) HR5.out HRD7.out HOW7.out hrl
          have hO2 := hO.later_none HR5.out ((Below.refl _ _).alloc (Nat.le_refl _) (.cells #[.int .u8 0, .string ⟨#[]⟩, .int .u8 0, .int .u8 0, .int .i64 0, .int .i64 0, .slice none 0 0] 25))
          unfold put10 at hO2
          exact hO2
      | some t =>
        have HR5 : Hid (R = (some { name := nm.text, place := PL, more := mo, tree := t }, at2)) := hR4
        obtain ⟨sl, he, hk7, ht7⟩ := hval
        obtain ⟨sp, sc, rfl, _⟩ := hk7.form
        generalize t.kids.length = sn at *
        have he' : e = .returned (.tuple #[.agg #[.int .u8 t.kind, .string (bs t.text), .int .u8 t.lo, .int .u8 t.hi, .int .i64 t.mn, .int .i64 t.mx, .slice sp sn sc], .bool true]) := he
        subst he'
        have HK7 := Lib.hid hk7
        clear hR4 he hk7
        go_wp2
        have hO : RuleOut w r ex A n c toks R (.returned (.tuple #[ruleV { name := nm.text, place := PL, more := mo, tree := t } (.slice sp sn sc), .bool true])) ((put10 w7 w.heap.size { name := nm.text, place := PL, more := mo, tree := t } (.slice sp sn sc)).alloc (.cells #[.int .u8 t.kind, .string (bs t.text), .int .u8 t.lo, .int .u8 t.hi, .int .i64 t.mn, .int .i64 t.mx, .slice sp sn sc] 25)) := by
          have hal : Below (put10 w7 w.heap.size { name := nm.text, place := PL, more := mo, tree := t } (.slice sp sn sc)).heap.size (put10 w7 w.heap.size { name := nm.text, place := PL, more := mo, tree := t } (.slice sp sn sc)) ((put10 w7 w.heap.size { name := nm.text, place := PL, more := mo, tree := t } (.slice sp sn sc)).alloc (.cells #[.int .u8 t.kind, .string (bs t.text), .int .u8 t.lo, .int .u8 t.hi, .int .i64 t.mn, .int .i64 t.mx, .slice sp sn sc] 25)) := (Below.refl _ _).alloc (Nat.le_refl _) _
          refine ⟨⟨v7, by rw [HR5.out]; exact (put10_rd HRD7.out hrl _ _).later hal⟩, (put10_of HOW7.out _ _).trans (Only.of_below hal), ?_⟩
          rw [HR5.out]
          refine ⟨_, rfl, KidsAt.same ?_ hal, ht7⟩
          refine HK7.out.later (by rw [put10_size]; exact Nat.le_refl _) (fun b hl hF => ⟨⟨fun hin => hF.1 (List.mem_cons.2 (.inr (List.mem_cons.2 (.inr hin)))), hF.2⟩, ?_⟩)
          exact (put10_only w7 w.heap.size _ _).block b hl (fun e => hF.1 (by rw [Option.some.inj e]; simp))
        unfold put10 at hO
        refine bodyPost_ret (v := .tuple #[ruleV { name := nm.text, place := PL, more := mo, tree := t } (.slice sp sn sc), .bool true]) ?_ rfl ?_
        · simp [results, Tryz.results29, go_sem, hcB, hBlt]
          rfl
        · exact hO
end Go.Proofs.YtodenbimeojgdaaGreatDoor

/-
  The contract of abnf.Parse: what tokens are as rules is what parseP tells. Conditions: the tokens and the table of leaves lie in memory; at most 200000 tokens, of texts of at most 65536 bytes.
-/
namespace Go.Proofs.YtodenbimeojgdaaGreatDoor
open Go.RowKit

theorem partF_ge (l : List Tk) : ∀ (f at_ : Nat) (tm : Tr) (st : List Grp), at_ ≤ (partF l f at_ tm st).2.1 := by
  intro f
  induction f with
  | zero => intro at_ tm st; exact Nat.le_refl _
  | succ f ih =>
    intro at_ tm st
    rw [partF]
    split
    · have h1 := ih (howP l (at_ + 1)).2 (howP l (at_ + 1)).1 (st ++ [openG l at_ tm])
      have h2 := (howP_tree l (at_ + 1)).2.2
      omega
    · split
      · exact Nat.le_refl _
      · exact Nat.le_succ _
theorem partP_ge (l : List Tk) (at_ : Nat) (st : List Grp) : at_ ≤ (partP l at_ st).2.1 := by
  have h1 := partF_ge l (l.length + 1) (howP l at_).2 (howP l at_).1 st
  have h2 := (howP_tree l at_).2.2
  unfold partP
  omega
theorem shutF_ge (l : List Tk) : ∀ (f at_ : Nat) (st : List Grp), at_ ≤ (shutF l f at_ st).2.1 := by
  intro f
  induction f with
  | zero => intro at_ st; exact Nat.le_refl _
  | succ f ih =>
    intro at_ st
    rw [shutF]
    split
    · split
      · exact Nat.le_succ _
      · have := ih (at_ + 1) (onTop (addG (wholeP (topG st))) st.dropLast)
        omega
    · exact Nat.le_refl _
theorem choicesF_ge (l : List Tk) : ∀ (f at_ : Nat) (st : List Grp), at_ ≤ (choicesF l f at_ st).2 := by
  intro f
  induction f with
  | zero => intro at_ st; exact Nat.le_refl _
  | succ f ih =>
    intro at_ st
    have h1 := partP_ge l at_ st
    cases hp : (partP l at_ st).1 with
    | false => rw [choicesF_no hp]; exact h1
    | true =>
      rw [choicesF_go hp]
      have h2 := shutF_ge l (l.length + 1) (partP l at_ st).2.1 (partP l at_ st).2.2
      have h3 : (partP l at_ st).2.1 ≤ (shutP l (partP l at_ st).2.1 (partP l at_ st).2.2).2.1 := h2
      generalize shutP l (partP l at_ st).2.1 (partP l at_ st).2.2 = SP at *
      obtain ⟨o, a, s⟩ := SP
      cases o with
      | some t => show at_ ≤ a; simp only at h3; omega
      | none =>
        simp only at h3
        show at_ ≤ (if standsP l a [4] = true then choicesF l f (a + 1) (onTop endRowP s) else choicesF l f a s).2
        split
        · have := ih (a + 1) (onTop endRowP s); omega
        · have := ih a s; omega
theorem ruleP_adv {l : List Tk} {at_ at2 : Nat} {x : Rl} (h : ruleP l at_ = (some x, at2)) : at_ + 2 ≤ at2 := by
  unfold ruleP at h
  cases hl : leafP l at_ [1] with
  | none => rw [hl] at h; cases h
  | some nm =>
    rw [hl] at h
    simp only at h
    split at h
    · have := choicesF_ge l (l.length + 1) (at_ + 2) [firstG]
      have h3 : at_ + 2 ≤ (choicesP l (at_ + 2)).2 := this
      generalize choicesP l (at_ + 2) = CP at *
      obtain ⟨o, a⟩ := CP
      cases o with
      | none => cases h
      | some t =>
        simp only [Prod.mk.injEq] at h
        simp only at h3
        omega
    · cases h
theorem parseF_end {l : List Tk} {f at_ : Nat} {acc : List Rl} (h : l.length ≤ at_) : parseF l f at_ acc = (acc, 0, 0) := by
  cases f with
  | zero => rfl
  | succ f => rw [parseF, if_pos h]
theorem parseF_none {l : List Tk} {f at_ at2 : Nat} {acc : List Rl} (h : at_ < l.length) (hr : ruleP l at_ = (none, at2)) : parseF l (f + 1) at_ acc = ([], placeP l at2, 20) := by
  rw [parseF, if_neg (by omega), hr]
theorem parseF_some {l : List Tk} {f at_ at2 : Nat} {acc : List Rl} {x : Rl} (h : at_ < l.length) (hr : ruleP l at_ = (some x, at2)) : parseF l (f + 1) at_ acc = if rightB x.tree = true then parseF l f at2 (acc ++ [x]) else ([], x.place, 21) := by
  rw [parseF, if_neg (by omega), hr]

/-- rules in a row, each with its tree's kids' slice -/
abbrev Rrow := List (Rl × Value)
def ruleCells (x : Rl) (sl : Value) : List Value := [.string (bs x.name), .int .i64 x.place, .bool x.more, .int .u8 x.tree.kind, .string (bs x.tree.text), .int .u8 x.tree.lo, .int .u8 x.tree.hi, .int .i64 x.tree.mn, .int .i64 x.tree.mx, sl]
def flatR (ps : Rrow) : List Value := ps.flatMap fun p => ruleCells p.1 p.2
theorem flatR_snoc (ps : Rrow) (p : Rl × Value) : flatR (ps ++ [p]) = flatR ps ++ ruleCells p.1 p.2 := by simp [flatR]
def RKids (w : World) (F : Nat → Prop) (ps : Rrow) : Prop := ∀ p ∈ ps, KidsAt w F p.1.tree.kids p.2 ∧ p.1.tree.text.length ≤ maxLen
/-- rules in memory of one's own -/
structure RulesAt (w : World) (base : Nat) (v : Value) (rules : List Rl) : Prop where
  ex : ∃ ps : Rrow, ps.map Prod.fst = rules ∧ w.ownsRow base 27 10 v ps.length (flatR ps) ∧ RKids w (· < w.heap.size) ps
def ParseOut (w : World) (R : List Rl × Int × Int) (e : Ending) (w' : World) : Prop :=
  ∃ v, e = .returned (.tuple #[v, .int .i64 R.2.1, .int .i64 R.2.2]) ∧ RulesAt w' w.heap.size v R.1 ∧ Below w.heap.size w w'
theorem Tryz.infoRule : (Tryz.prog.info? 27).map (fun i => (i.zero, i.size, i.bytes)) = some (some (.agg #[.string ⟨#[]⟩, .int .i64 0, .bool false, .int .u8 0, .string ⟨#[]⟩, .int .u8 0, .int .u8 0, .int .i64 0, .int .i64 0, .slice none 0 0]), 10, 104) := by kernel_rfl
end Go.Proofs.YtodenbimeojgdaaGreatDoor

/-
  The contract of abnf.Print. Conditions: the rule's tree lies in memory; its bytes are bytes, its texts within Go's bounds; the text within Go's own limit.
-/
namespace Go.Proofs.YtodenbimeojgdaaGreatDoor
open Go.RowKit

def printP (name : List UInt8) (more : Bool) (t : Tr) : List UInt8 × Int :=
  if nameB name && rightB t then (name ++ (if more then [32, 61, 47, 32] else [32, 61, 32]) ++ printD 100 t, 0) else ([], 2)

theorem ret_pair {s s' : ByteArray} {k k' : Int} (h : s = s') (h2 : k = k') : Ending.returned (.tuple #[.string s, .int .i64 k]) = .returned (.tuple #[.string s', .int .i64 k']) := by rw [h, h2]

set_option maxHeartbeats 4000000 in
set_option maxRecDepth 100000 in
theorem Print_any (r : Rl) (sl : Value) (w : World) (hk : KidsAt w (· < w.heap.size) r.tree.kids sl) (hy : byteD 100 r.tree) (htx : textD 100 r.tree) (hp : PowAt w) (hn : r.name.length ≤ maxLen) (hlen : (printP r.name r.more r.tree).1.length ≤ 140737488355328) :
    Calls Tryz.prog 15 #[.agg (ruleCells r sl).toArray] w fun e w' => e = .returned (.tuple #[.string (bs (printP r.name r.more r.tree).1), .int .i64 (printP r.name r.more r.tree).2]) ∧ Below w.heap.size w w' := by
  obtain ⟨p, cap, rfl, hm⟩ := hk.form
  have HRC : Hid ((ruleCells r (.slice p r.tree.kids.length cap)).toArray = #[.string (bs r.name), .int .i64 r.place, .bool r.more, .int .u8 r.tree.kind, .string (bs r.tree.text), .int .u8 r.tree.lo, .int .u8 r.tree.hi, .int .i64 r.tree.mn, .int .i64 r.tree.mx, .slice p r.tree.kids.length cap]) := show _ = _ from rfl
  rw [HRC.out]
  clear HRC
  have HNM := Lib.hid (fun W => abName_bs r.name hn W)
  have HTV : Hid (treeV r.tree (.slice p r.tree.kids.length cap) = .agg #[.int .u8 r.tree.kind, .string (bs r.tree.text), .int .u8 r.tree.lo, .int .u8 r.tree.hi, .int .i64 r.tree.mn, .int .i64 r.tree.mx, .slice p r.tree.kids.length cap]) := show _ = _ from rfl
  have HRT : Hid (∀ (W : World), Below w.heap.size w W → Calls Tryz.prog 13 #[.agg #[.int .u8 r.tree.kind, .string (bs r.tree.text), .int .u8 r.tree.lo, .int .u8 r.tree.hi, .int .i64 r.tree.mn, .int .i64 r.tree.mx, .slice p r.tree.kids.length cap]] W fun e w' => e = .returned (.bool (rightB r.tree)) ∧ Below W.heap.size W w') := fun W hW => by
    have := abRight_any r.tree _ W ((hk.under hW).mono (fun b hl _ => hl)) htx.1
    rw [HTV.out] at this
    exact this
  have HPP : Hid (printP r.name r.more r.tree = if nameB r.name && rightB r.tree then (r.name ++ (if r.more then [32, 61, 47, 32] else [32, 61, 32]) ++ printD 100 r.tree, 0) else ([], 2)) := show _ = _ from rfl
  have HB1 : Hid (Below w.heap.size w (w.alloc (.cells #[.string (bs r.name), .int .i64 r.place, .bool r.more, .int .u8 r.tree.kind, .string (bs r.tree.text), .int .u8 r.tree.lo, .int .u8 r.tree.hi, .int .i64 r.tree.mn, .int .i64 r.tree.mx, .slice p r.tree.kids.length cap] 27))) := (Below.refl _ _).alloc (Nat.le_refl _) _
  cases hnm : nameB r.name with
  | false =>
    rw [hnm] at HNM HPP
    clear hk hy htx hp hlen HRT HTV hm hn hnm
    go_enter Tryz.func15, Tryz.ntmps15
    go_wp2_with (go_at_call 35; refine (HNM.out _).mono ?_; rintro e w1 ⟨rfl, rfl⟩)
    go_ret2
    refine ⟨?_, HB1.out⟩
    rw [HPP.out]
    rfl
  | true =>
    cases hrt : rightB r.tree with
    | false =>
      rw [hnm, hrt] at HPP
      rw [hnm] at HNM
      rw [hrt] at HRT
      clear hk hy htx hp hlen HTV hm hn hnm hrt
      go_enter Tryz.func15, Tryz.ntmps15
      go_wp2_with (first | (go_at_call 35; refine (HNM.out _).mono ?_; rintro e w1 ⟨rfl, rfl⟩) | (go_at_call 13; refine (HRT.out _ HB1.out).mono ?_))
      rintro e w2 ⟨rfl, hb2⟩
      have HB2 := Lib.hid (HB1.out.trans (hb2.mono HB1.out.size))
      clear hb2
      go_wp2
      go_ret2
      refine ⟨?_, HB2.out⟩
      rw [HPP.out]
      rfl
    | true =>
      rw [hnm, hrt] at HPP
      rw [hnm] at HNM
      rw [hrt] at HRT
      have HK := Lib.hid hk
      have HY := Lib.hid hy
      have HTX := Lib.hid htx
      have HPW := Lib.hid hp
      have HL : Hid ((r.name ++ (if r.more then [32, 61, 47, 32] else [32, 61, 32]) ++ printD 100 r.tree).length ≤ 140737488355328) := by
        show _ ≤ _
        have h1 := hlen
        rw [HPP.out] at h1
        simpa using h1
      have HRI : Hid (rightD 100 r.tree = true) := hrt
      have hpl := hp.lt
      clear hk hy htx hp hlen hm hn hnm hrt
      generalize hsg : (if r.more then [32, 61, 47, 32] else [32, 61, 32] : List UInt8) = sg at HL HPP
      have HSG := Lib.hid hsg
      clear hsg
      cases hmore : r.more with
      | false =>
        rw [hmore] at HB1 HSG HPP
        have HSG2 : Hid (sg = [32, 61, 32]) := by show _ = _; rw [← HSG.out]; rfl
        clear HSG hmore
        go_enter Tryz.func15, Tryz.ntmps15
        go_wp2_with (first | (go_at_call 35; refine (HNM.out _).mono ?_; rintro e w1 ⟨rfl, rfl⟩) | (go_at_call 13; refine (HRT.out _ HB1.out).mono ?_))
        rintro e w2 ⟨rfl, hb2⟩
        have hBX : Blk w2 w.heap.size 27 #[.string (bs r.name), .int .i64 r.place, .bool false, .int .u8 r.tree.kind, .string (bs r.tree.text), .int .u8 r.tree.lo, .int .u8 r.tree.hi, .int .i64 r.tree.mn, .int .i64 r.tree.mx, .slice p r.tree.kids.length cap] := (Blk.new w _ _).below hb2 (by simp)
        have HB2 := Lib.hid (HB1.out.trans (hb2.mono HB1.out.size))
        have hlt2 : w.heap.size < w2.heap.size := hBX.lt
        have hc2 := hBX.cell
        have hc3 : ∀ i, (w2.alloc (.cells #[.pointer none, .slice none 0 0] 86)).cell? ⟨w.heap.size, i, none⟩ = (#[.string (bs r.name), .int .i64 r.place, .bool false, .int .u8 r.tree.kind, .string (bs r.tree.text), .int .u8 r.tree.lo, .int .u8 r.tree.hi, .int .i64 r.tree.mn, .int .i64 r.tree.mx, .slice p r.tree.kids.length cap] : Array Value)[i]? := (hBX.alloc _).cell
        have HBX := Lib.hid hBX
        clear hb2 hBX
        go_wp2_with (go_at_call 36; refine (put_at w2.heap.size w2.heap.size [] none (w2.alloc (.cells #[.pointer none, .slice none 0 0] 86)) (Pr.new w2) [r.name, [32, 61, 32]] (by have := HL.out; rw [HSG2.out] at this; simp at this ⊢; omega) (by simp) _ 2 2 _ (by simp) rfl ((Below.refl _ _).alloc (Nat.le_refl _) _) (Blk.new_at _ _ _ _ (by simp))).mono ?_)
        rintro e w4 ⟨rfl, hw4⟩
        obtain ⟨buf4, hp4, hbel4, hE4, -⟩ := hw4.apart
        have HB4 := Lib.hid (((Below.refl w2.heap.size w2).alloc (Nat.le_refl _) _).trans hbel4)
        have hc4 := (HBX.out.below HB4.out hlt2).cell
        have HP4 := Lib.hid hp4
        have HE4 := Lib.hid hE4
        have HTR : Hid (Calls Tryz.prog 37 #[.pointer (some ⟨w2.heap.size, 0, none⟩), .agg #[.int .u8 r.tree.kind, .string (bs r.tree.text), .int .u8 r.tree.lo, .int .u8 r.tree.hi, .int .i64 r.tree.mn, .int .i64 r.tree.mx, .slice p r.tree.kids.length cap]] w4 fun e w' => e = .returned (.tuple #[]) ∧ Wr w2.heap.size w2.heap.size buf4 w4 ([] ++ [r.name, [32, 61, 32]].flatten ++ printD 100 r.tree) w') := by
          have := prTree_any 100 w2.heap.size w2.heap.size r.tree HRI.out HY.out HTX.out (Nat.lt_trans hpl hlt2) (.slice p r.tree.kids.length cap) _ buf4 w4 HP4.out (((HK.out.under HB2.out).mono (fun b hl _ => hl)).under HB4.out) ((HPW.out.below HB2.out hpl).below HB4.out (Nat.lt_trans hpl hlt2)) (by have := HL.out; rw [HSG2.out] at this; simp at this ⊢; omega)
          rw [HTV.out] at this
          exact this
        clear hw4 hp4 hbel4 hE4 hc2 hc3 HBX HRT HNM
        go_wp2_with (go_at_call 37; refine HTR.out.mono ?_)
        rintro e w5 ⟨rfl, hw5⟩
        obtain ⟨buf5, hp5, hbel5, hE5, -⟩ := hw5.apart
        have HB5 := Lib.hid (HB4.out.trans hbel5)
        have HST := Lib.hid (bdString_any w2.heap.size w2.heap.size _ buf5 w5 hp5 (by simp))
        clear hw5 hp5 hbel5 hE5 hc4 HTR HP4 HE4
        go_wp2_with (go_at_call 38; refine HST.out.mono ?_)
        rintro e w6 ⟨rfl, hb6⟩
        have HEND := Lib.hid (HB2.out.trans ((HB5.out.trans hb6).mono HB2.out.size))
        clear hb6 HST
        go_wp2
        go_ret2
        refine ⟨?_, HEND.out⟩
        exact ret_pair (by rw [HPP.out, HSG2.out]; simp) (by rw [HPP.out]; rfl)
      | true =>
        rw [hmore] at HB1 HSG HPP
        have HSG2 : Hid (sg = [32, 61, 47, 32]) := by show _ = _; rw [← HSG.out]; rfl
        clear HSG hmore
        go_enter Tryz.func15, Tryz.ntmps15
        go_wp2_with (first | (go_at_call 35; refine (HNM.out _).mono ?_; rintro e w1 ⟨rfl, rfl⟩) | (go_at_call 13; refine (HRT.out _ HB1.out).mono ?_))
        rintro e w2 ⟨rfl, hb2⟩
        have hBX : Blk w2 w.heap.size 27 #[.string (bs r.name), .int .i64 r.place, .bool true, .int .u8 r.tree.kind, .string (bs r.tree.text), .int .u8 r.tree.lo, .int .u8 r.tree.hi, .int .i64 r.tree.mn, .int .i64 r.tree.mx, .slice p r.tree.kids.length cap] := (Blk.new w _ _).below hb2 (by simp)
        have HB2 := Lib.hid (HB1.out.trans (hb2.mono HB1.out.size))
        have hlt2 : w.heap.size < w2.heap.size := hBX.lt
        have hc2 := hBX.cell
        have hc3 : ∀ i, (w2.alloc (.cells #[.pointer none, .slice none 0 0] 86)).cell? ⟨w.heap.size, i, none⟩ = (#[.string (bs r.name), .int .i64 r.place, .bool true, .int .u8 r.tree.kind, .string (bs r.tree.text), .int .u8 r.tree.lo, .int .u8 r.tree.hi, .int .i64 r.tree.mn, .int .i64 r.tree.mx, .slice p r.tree.kids.length cap] : Array Value)[i]? := (hBX.alloc _).cell
        have HBX := Lib.hid hBX
        clear hb2 hBX
        go_wp2_with (go_at_call 36; refine (put_at w2.heap.size w2.heap.size [] none (w2.alloc (.cells #[.pointer none, .slice none 0 0] 86)) (Pr.new w2) [r.name, [32, 61, 47, 32]] (by have := HL.out; rw [HSG2.out] at this; simp at this ⊢; omega) (by simp) _ 2 2 _ (by simp) rfl ((Below.refl _ _).alloc (Nat.le_refl _) _) (Blk.new_at _ _ _ _ (by simp))).mono ?_)
        rintro e w4 ⟨rfl, hw4⟩
        obtain ⟨buf4, hp4, hbel4, hE4, -⟩ := hw4.apart
        have HB4 := Lib.hid (((Below.refl w2.heap.size w2).alloc (Nat.le_refl _) _).trans hbel4)
        have hc4 := (HBX.out.below HB4.out hlt2).cell
        have HP4 := Lib.hid hp4
        have HE4 := Lib.hid hE4
        have HTR : Hid (Calls Tryz.prog 37 #[.pointer (some ⟨w2.heap.size, 0, none⟩), .agg #[.int .u8 r.tree.kind, .string (bs r.tree.text), .int .u8 r.tree.lo, .int .u8 r.tree.hi, .int .i64 r.tree.mn, .int .i64 r.tree.mx, .slice p r.tree.kids.length cap]] w4 fun e w' => e = .returned (.tuple #[]) ∧ Wr w2.heap.size w2.heap.size buf4 w4 ([] ++ [r.name, [32, 61, 47, 32]].flatten ++ printD 100 r.tree) w') := by
          have := prTree_any 100 w2.heap.size w2.heap.size r.tree HRI.out HY.out HTX.out (Nat.lt_trans hpl hlt2) (.slice p r.tree.kids.length cap) _ buf4 w4 HP4.out (((HK.out.under HB2.out).mono (fun b hl _ => hl)).under HB4.out) ((HPW.out.below HB2.out hpl).below HB4.out (Nat.lt_trans hpl hlt2)) (by have := HL.out; rw [HSG2.out] at this; simp at this ⊢; omega)
          rw [HTV.out] at this
          exact this
        clear hw4 hp4 hbel4 hE4 hc2 hc3 HBX HRT HNM
        go_wp2_with (go_at_call 37; refine HTR.out.mono ?_)
        rintro e w5 ⟨rfl, hw5⟩
        obtain ⟨buf5, hp5, hbel5, hE5, -⟩ := hw5.apart
        have HB5 := Lib.hid (HB4.out.trans hbel5)
        have HST := Lib.hid (bdString_any w2.heap.size w2.heap.size _ buf5 w5 hp5 (by simp))
        clear hw5 hp5 hbel5 hE5 hc4 HTR HP4 HE4
        go_wp2_with (go_at_call 38; refine HST.out.mono ?_)
        rintro e w6 ⟨rfl, hb6⟩
        have HEND := Lib.hid (HB2.out.trans ((HB5.out.trans hb6).mono HB2.out.size))
        clear hb6 HST
        go_wp2
        go_ret2
        refine ⟨?_, HEND.out⟩
        exact ret_pair (by rw [HPP.out, HSG2.out]; simp) (by rw [HPP.out]; rfl)
end Go.Proofs.YtodenbimeojgdaaGreatDoor

/-
  What a printed tree is read as, token by token, in plain terms. No conditions.
-/
namespace Go.Proofs.YtodenbimeojgdaaGreatDoor
open Go.RowKit

/-- a text that stops a span -/
def Stops (p : Int → Bool) (y : List UInt8) : Prop := y = [] ∨ ∃ c r, y = c :: r ∧ p c.toNat = false
theorem span_app (p : Int → Bool) : ∀ (a y : List UInt8), (∀ c ∈ a, p c.toNat = true) → Stops p y → spanZ p (a ++ y) = a.length := by
  intro a
  induction a with
  | nil =>
    intro y _ hy
    rcases hy with rfl | ⟨c, r, rfl, hc⟩
    · rfl
    · rw [List.nil_append, spanZ, if_neg (by rw [hc]; exact Bool.false_ne_true)]
      rfl
  | cons c r ih =>
    intro y ha hy
    rw [List.cons_append, spanZ, if_pos (ha c (by simp)), ih y (fun d hd => ha d (by simp [hd])) hy]
    rfl
/-- what may stand behind a printed tree: nothing, a blank, a bracket -/
def Ends (y : List UInt8) : Prop := y = [] ∨ (∃ r, y = 32 :: r) ∨ ∃ r, y = 41 :: r
theorem Ends.stops {y : List UInt8} (h : Ends y) (p : Int → Bool) (h1 : p 32 = false) (h2 : p 41 = false) : Stops p y := by
  rcases h with rfl | ⟨r, rfl⟩ | ⟨r, rfl⟩
  · exact .inl rfl
  · exact .inr ⟨32, r, rfl, h1⟩
  · exact .inr ⟨41, r, rfl, h2⟩

/-! ### names -/
theorem named_of_tail (c : UInt8) : nameTailZ c.toNat = true → namedZ c.toNat = true := byte_all (p := fun c => nameTailZ c.toNat = true → namedZ c.toNat = true) (by decide +kernel) c
theorem letter_of_small (c : UInt8) : smallZ c.toNat = true → letterZ c.toNat = true ∧ nameTailZ c.toNat = true := byte_all (p := fun c => smallZ c.toNat = true → letterZ c.toNat = true ∧ nameTailZ c.toNat = true) (by decide +kernel) c
theorem name_parts {l : List UInt8} (h : nameB l = true) : ∃ c r, l = c :: r ∧ letterZ c.toNat = true ∧ ∀ d ∈ l, namedZ d.toNat = true := by
  cases l with
  | nil => cases h
  | cons a r =>
    have e : nameB (a :: r) = (smallZ a.toNat && r.all (fun c => nameTailZ c.toNat)) := rfl
    rw [e, Bool.and_eq_true, List.all_eq_true] at h
    have ha := letter_of_small a h.1
    refine ⟨a, r, rfl, ha.1, fun d hd => ?_⟩
    rcases List.mem_cons.1 hd with rfl | hd
    · exact named_of_tail _ ha.2
    · exact named_of_tail _ (h.2 d hd)
theorem read_word (n y : List UInt8) (hn : ∃ c r, n = c :: r ∧ letterZ c.toNat = true ∧ ∀ d ∈ n, namedZ d.toNat = true) (hy : Stops namedZ y) : readP (n ++ y) = { tok := { kind := 1, text := n }, size := n.length } := by
  obtain ⟨c, r, rfl, hc, hall⟩ := hn
  rw [read_letter _ (by simp) (by rw [List.cons_append, byteZ_cons]; exact hc)]
  unfold nameP
  rw [span_app namedZ _ _ hall hy, List.take_left]

/-! ### chars -/
theorem quote_app : ∀ (t y : List UInt8), charsB t = true → quoteAt (t ++ 34 :: y) = some t.length := by
  intro t
  induction t with
  | nil => intro y _; rfl
  | cons c r ih =>
    intro y h
    have e : charsB (c :: r) = (charZ c.toNat && charsB r) := rfl
    rw [e, Bool.and_eq_true] at h
    have hc := h.1
    simp only [charZ, Bool.and_eq_true, decide_eq_true_eq, Bool.not_eq_true', beq_eq_false_iff_ne] at hc
    rw [List.cons_append, quoteAt, if_neg hc.2, if_neg (by omega), ih y h.2]
    rfl
theorem read_34 (r : List UInt8) : readP (34 :: r) = charsP (34 :: r) := rfl
theorem read_quoted (t y : List UInt8) (h : charsB t = true) : readP ([34] ++ t ++ [34] ++ y) = { tok := { kind := 10, text := t }, size := ([34] ++ t ++ [34]).length } := by
  have e : [34] ++ t ++ [34] ++ y = 34 :: (t ++ 34 :: y) := by simp
  rw [e, read_34]
  unfold charsP
  rw [show (34 :: (t ++ 34 :: y)).drop 1 = t ++ 34 :: y from rfl, quote_app t y h]
  show ({ tok := { kind := 10, text := (t ++ 34 :: y).take t.length }, size := t.length + 2 } : Pc) = _
  rw [List.take_left]
  simp

/-! ### bytes -/
theorem pair_facts (x : UInt8) : digitBelow 16 (hexC (x.toNat / 16)).toNat = true ∧ digitBelow 16 (hexC (x.toNat % 16)).toNat = true ∧ numberZ 16 (pairP x) = x.toNat ∧ 0 ≤ (x.toNat : Int) ∧ (x.toNat : Int) ≤ 255 :=
  byte_all (p := fun x => digitBelow 16 (hexC (x.toNat / 16)).toNat = true ∧ digitBelow 16 (hexC (x.toNat % 16)).toNat = true ∧ numberZ 16 (pairP x) = x.toNat ∧ 0 ≤ (x.toNat : Int) ∧ (x.toNat : Int) ≤ 255) (by decide +kernel) x
theorem value_pair (pre z : List UInt8) (x : UInt8) (hz : Stops (digitBelow 16) z) : valueZ (pre ++ pairP x ++ z) pre.length 16 = some ((x.toNat : Int), pre.length + 2) := by
  obtain ⟨h1, h2, h3, h4, h5⟩ := pair_facts x
  have hd : (pre ++ pairP x ++ z).drop pre.length = pairP x ++ z := by rw [List.append_assoc, List.drop_left]
  have hsp : spanZ (digitBelow 16) (pairP x ++ z) = 2 := span_app (digitBelow 16) (pairP x) z (by
    intro c hc
    simp only [pairP, List.mem_cons, List.not_mem_nil, or_false] at hc
    rcases hc with rfl | rfl
    · exact h1
    · exact h2) hz
  have ht : (pairP x ++ z).take 2 = pairP x := List.take_left (l₁ := pairP x)
  unfold valueZ
  rw [hd, hsp, ht, h3, if_neg (by simp), if_neg (by omega), if_neg (by omega)]
theorem stands_app (pre : List UInt8) (c : UInt8) (r : List UInt8) (b : Int) : standsB (pre ++ c :: r) pre.length b = ((c.toNat : Int) == b) := by
  unfold standsB byteZ
  rw [List.getD_eq_getElem?_getD, List.getElem?_append_right (Nat.le_refl _), Nat.sub_self]
  simp
theorem stands_none (pre : List UInt8) (b : Int) : standsB pre pre.length b = false := by
  unfold standsB
  simp
theorem hexes_stop (b : UInt8) (hb : digitBelow 16 b.toNat = false) (r y : List UInt8) (hy : Stops (digitBelow 16) y) : Stops (digitBelow 16) (hexesP [b] [b] r ++ y) := by
  cases r with
  | nil => exact hy
  | cons x r => exact .inr ⟨b, pairP x ++ hexesP [b] [b] r ++ y, by simp [hexesP], hb⟩
theorem more_pairs (y : List UInt8) (hy : Ends y) : ∀ (r pre : List UInt8) (f : Nat) (nums : List Int), (pre ++ hexesP [46] [46] r ++ y).length < f + pre.length → moreVals (pre ++ hexesP [46] [46] r ++ y) 16 f pre.length nums = some (nums ++ r.map (fun x => (x.toNat : Int)), pre.length + (hexesP [46] [46] r).length) := by
  intro r
  induction r with
  | nil =>
    intro pre f nums hf
    obtain ⟨f, rfl⟩ : ∃ g, f = g + 1 := ⟨f - 1, by simp [hexesP] at hf; omega⟩
    have hs : standsB (pre ++ hexesP [46] [46] [] ++ y) pre.length 46 = false := by
      rw [show hexesP [46] [46] ([] : List UInt8) = [] from rfl, List.append_nil]
      rcases hy with rfl | ⟨r, rfl⟩ | ⟨r, rfl⟩
      · rw [List.append_nil]; exact stands_none _ _
      · rw [stands_app]; rfl
      · rw [stands_app]; rfl
    rw [moreVals, if_neg (by rw [hs]; exact Bool.false_ne_true)]
    simp [hexesP]
  | cons x r ih =>
    intro pre f nums hf
    obtain ⟨f, rfl⟩ : ∃ g, f = g + 1 := ⟨f - 1, by simp [hexesP] at hf; omega⟩
    have e : pre ++ hexesP [46] [46] (x :: r) ++ y = (pre ++ [46] ++ pairP x) ++ hexesP [46] [46] r ++ y := by simp [hexesP]
    have e1 : pre ++ hexesP [46] [46] (x :: r) ++ y = pre ++ 46 :: (pairP x ++ hexesP [46] [46] r ++ y) := by simp [hexesP]
    have hs : standsB (pre ++ hexesP [46] [46] (x :: r) ++ y) pre.length 46 = true := by rw [e1, stands_app]; rfl
    have hv : valueZ (pre ++ hexesP [46] [46] (x :: r) ++ y) (pre.length + 1) 16 = some ((x.toNat : Int), pre.length + 3) := by
      have := value_pair (pre ++ [46]) (hexesP [46] [46] r ++ y) x (hexes_stop 46 (by decide) r y (hy.stops _ (by decide) (by decide)))
      rw [show (pre ++ [46] : List UInt8).length = pre.length + 1 from by simp] at this
      rw [show pre ++ hexesP [46] [46] (x :: r) ++ y = pre ++ [46] ++ pairP x ++ (hexesP [46] [46] r ++ y) from by simp [hexesP]]
      exact this
    rw [moreVals, if_pos hs, hv]
    simp only
    have hl : (pre ++ [46] ++ pairP x).length = pre.length + 3 := by simp [pairP]
    rw [← hl, e, ih (pre ++ [46] ++ pairP x) f (nums ++ [(x.toNat : Int)]) (by rw [← e]; omega)]
    simp [hexesP, pairP]
    omega
theorem read_37 (r : List UInt8) : readP (37 :: r) = valuesP (37 :: r) := rfl
theorem base_120 (r : List UInt8) : baseZ (37 :: 120 :: r) = 16 := by
  unfold baseZ
  rw [if_neg (by simp), if_pos (.inl rfl)]
theorem nums_text (l : List UInt8) : numsText (l.map fun x => (x.toNat : Int)) = l := by
  unfold numsText
  rw [List.map_map]
  conv => rhs; rw [← List.map_id l]
  apply List.map_congr_left
  intro x _
  simp
theorem read_bytes (x : UInt8) (r y : List UInt8) (hy : Ends y) : readP (hexesP [37, 120] [46] (x :: r) ++ y) = { tok := { kind := 11, text := x :: r }, size := (hexesP [37, 120] [46] (x :: r)).length } := by
  have e0 : hexesP [37, 120] [46] (x :: r) = [37, 120] ++ pairP x ++ hexesP [46] [46] r := rfl
  have e1 : hexesP [37, 120] [46] (x :: r) ++ y = [37, 120] ++ pairP x ++ (hexesP [46] [46] r ++ y) := by rw [e0]; simp
  have e2 : hexesP [37, 120] [46] (x :: r) ++ y = 37 :: 120 :: (pairP x ++ (hexesP [46] [46] r ++ y)) := e1
  have hv : valueZ (hexesP [37, 120] [46] (x :: r) ++ y) 2 16 = some ((x.toNat : Int), 4) := by
    rw [e1]
    exact value_pair [37, 120] (hexesP [46] [46] r ++ y) x (hexes_stop 46 (by decide) r y (hy.stops _ (by decide) (by decide)))
  have hlen : (([37, 120] ++ pairP x : List UInt8)).length = 4 := by simp [pairP]
  have e3 : hexesP [37, 120] [46] (x :: r) ++ y = ([37, 120] ++ pairP x) ++ hexesP [46] [46] r ++ y := by rw [e0]
  have hst : standsB (hexesP [37, 120] [46] (x :: r) ++ y) 4 45 = false := by
    rw [e3, ← hlen]
    cases r with
    | nil =>
      rw [show hexesP [46] [46] ([] : List UInt8) = [] from rfl, List.append_nil]
      rcases hy with rfl | ⟨r, rfl⟩ | ⟨r, rfl⟩
      · rw [List.append_nil]; exact stands_none _ _
      · rw [stands_app]; rfl
      · rw [stands_app]; rfl
    | cons z r =>
      rw [show [37, 120] ++ pairP x ++ hexesP [46] [46] (z :: r) ++ y = ([37, 120] ++ pairP x) ++ 46 :: (pairP z ++ hexesP [46] [46] r ++ y) from by simp [hexesP], stands_app]
      rfl
  have hm : moreVals (hexesP [37, 120] [46] (x :: r) ++ y) 16 ((hexesP [37, 120] [46] (x :: r) ++ y).length + 1) 4 [(x.toNat : Int)] = some ([(x.toNat : Int)] ++ r.map (fun x => (x.toNat : Int)), 4 + (hexesP [46] [46] r).length) := by
    have := more_pairs y hy r ([37, 120] ++ pairP x) ((hexesP [37, 120] [46] (x :: r) ++ y).length + 1) [(x.toNat : Int)] (by rw [← e3]; omega)
    rw [hlen, ← e3] at this
    exact this
  have hb : baseZ (hexesP [37, 120] [46] (x :: r) ++ y) = 16 := by rw [e2]; exact base_120 _
  have hrd : readP (hexesP [37, 120] [46] (x :: r) ++ y) = valuesP (hexesP [37, 120] [46] (x :: r) ++ y) := by rw [e2]; exact read_37 _
  rw [hrd]
  unfold valuesP
  rw [hb, hv, valuesOf, if_neg (by rw [hst]; exact Bool.false_ne_true), hm]
  show ({ tok := { kind := 11, text := numsText ((x :: r).map fun x => (x.toNat : Int)) }, size := 4 + (hexesP [46] [46] r).length } : Pc) = _
  rw [nums_text, e0, List.length_append, hlen]
theorem read_range (a b : UInt8) (y : List UInt8) (hy : Ends y) (hab : (a.toNat : Int) ≤ b.toNat) : readP (hexesP [37, 120] [45] [a, b] ++ y) = { tok := { kind := 12, lo := a.toNat, hi := b.toNat }, size := (hexesP [37, 120] [45] [a, b]).length } := by
  have e1 : hexesP [37, 120] [45] [a, b] ++ y = [37, 120] ++ pairP a ++ (45 :: (pairP b ++ y)) := by simp [hexesP]
  have e2 : hexesP [37, 120] [45] [a, b] ++ y = 37 :: 120 :: (pairP a ++ (45 :: (pairP b ++ y))) := e1
  have hv : valueZ (hexesP [37, 120] [45] [a, b] ++ y) 2 16 = some ((a.toNat : Int), 4) := by
    rw [e1]
    exact value_pair [37, 120] _ a (.inr ⟨45, _, rfl, by decide⟩)
  have hlen : (([37, 120] ++ pairP a : List UInt8)).length = 4 := by simp [pairP]
  have hst : standsB (hexesP [37, 120] [45] [a, b] ++ y) 4 45 = true := by
    rw [e1, ← hlen, stands_app]
    rfl
  have hv2 : valueZ (hexesP [37, 120] [45] [a, b] ++ y) 5 16 = some ((b.toNat : Int), 7) := by
    have := value_pair ([37, 120] ++ pairP a ++ [45]) y b (hy.stops _ (by decide) (by decide))
    rw [show ([37, 120] ++ pairP a ++ [45] : List UInt8).length = 5 from by simp [pairP]] at this
    rw [show hexesP [37, 120] [45] [a, b] ++ y = [37, 120] ++ pairP a ++ [45] ++ pairP b ++ y from by simp [hexesP]]
    exact this
  have hb : baseZ (hexesP [37, 120] [45] [a, b] ++ y) = 16 := by rw [e2]; exact base_120 _
  have hrd : readP (hexesP [37, 120] [45] [a, b] ++ y) = valuesP (hexesP [37, 120] [45] [a, b] ++ y) := by rw [e2]; exact read_37 _
  rw [hrd]
  unfold valuesP
  rw [hb, hv, valuesOf, if_pos hst, hv2, rangeOf, if_neg (by omega)]
  simp [hexesP, pairP]

/-! ### how often -/
theorem number_snoc (b : Int) : ∀ (l : List UInt8) (a : Int) (c : UInt8), numberFrom b a (l ++ [c]) = numberFrom b a l * b + digitOfZ c.toNat := by
  intro l
  induction l with
  | nil => intro a c; rfl
  | cons d r ih => intro a c; exact ih _ c
theorem digit_facts (k : Nat) (h : k < 10) : digitZ (UInt8.ofNat (48 + k)).toNat = true ∧ digitOfZ (UInt8.ofNat (48 + k)).toNat = k := by
  have : ∀ k : Fin 10, digitZ (UInt8.ofNat (48 + k.val)).toNat = true ∧ digitOfZ (UInt8.ofNat (48 + k.val)).toNat = k.val := by decide
  exact this ⟨k, h⟩
theorem dec_facts : ∀ (n : Nat), (∀ c ∈ Lib.decDigits n, digitZ c.toNat = true) ∧ numberZ 10 (Lib.decDigits n) = n ∧ Lib.decDigits n ≠ [] := by
  intro n
  induction n using Nat.strongRecOn with
  | _ n ih =>
    by_cases h : n < 10
    · obtain ⟨h1, h2⟩ := digit_facts n h
      rw [Lib.decDigits, dif_pos h]
      refine ⟨fun c hc => ?_, ?_, by simp⟩
      · rw [List.mem_singleton] at hc; subst hc; exact h1
      · show (0 : Int) * 10 + digitOfZ _ = _
        rw [h2]
        omega
    · obtain ⟨i1, i2, i3⟩ := ih (n / 10) (by omega)
      obtain ⟨h1, h2⟩ := digit_facts (n % 10) (by omega)
      rw [Lib.decDigits, dif_neg h]
      refine ⟨fun c hc => ?_, ?_, by simp⟩
      · rcases List.mem_append.1 hc with hc | hc
        · exact i1 c hc
        · rw [List.mem_singleton] at hc; subst hc; exact h1
      · unfold numberZ at *
        rw [number_snoc, i2, h2]
        omega
theorem dec_len (n : Nat) (h : n ≤ 9999) : (Lib.decDigits n).length ≤ 4 := by
  rw [Lib.decDigits_length]
  by_cases h1 : n < 10
  · rw [Lib.nDigits_small h1]; omega
  rw [Lib.nDigits_big h1]
  by_cases h2 : n / 10 < 10
  · rw [Lib.nDigits_small h2]; omega
  rw [Lib.nDigits_big h2]
  by_cases h3 : n / 10 / 10 < 10
  · rw [Lib.nDigits_small h3]; omega
  rw [Lib.nDigits_big h3, Lib.nDigits_small (by omega)]
  omega
theorem itoa_facts (n : Int) (h0 : 0 ≤ n) (h1 : n ≤ 9999) : (∀ c ∈ Lib.itoa n, digitZ c.toNat = true) ∧ numberZ 10 (Lib.itoa n) = n ∧ 1 ≤ (Lib.itoa n).length ∧ (Lib.itoa n).length ≤ 4 := by
  obtain ⟨k, rfl⟩ : ∃ k : Nat, n = k := ⟨n.toNat, by omega⟩
  have e : Lib.itoa (k : Int) = Lib.decDigits k := by unfold Lib.itoa; rw [if_neg (by omega)]; simp
  obtain ⟨a, b, c⟩ := dec_facts k
  rw [e]
  exact ⟨a, b, List.length_pos_iff.2 c, dec_len k (by omega)⟩
theorem read_times (l : List UInt8) (c : UInt8) (r : List UInt8) (hl : l = c :: r) (h : timesZ c.toNat = true) : readP l = timesP l := by
  subst hl
  have hc : c = 42 ∨ c = 48 ∨ c = 49 ∨ c = 50 ∨ c = 51 ∨ c = 52 ∨ c = 53 ∨ c = 54 ∨ c = 55 ∨ c = 56 ∨ c = 57 := byte_all (p := fun c => timesZ c.toNat = true → (c = 42 ∨ c = 48 ∨ c = 49 ∨ c = 50 ∨ c = 51 ∨ c = 52 ∨ c = 53 ∨ c = 54 ∨ c = 55 ∨ c = 56 ∨ c = 57)) (by decide +kernel) c h
  rcases hc with rfl | rfl | rfl | rfl | rfl | rfl | rfl | rfl | rfl | rfl | rfl <;> rfl
theorem times_42 (d e y : List UInt8) (hd : ∀ c ∈ d, digitZ c.toNat = true) (he : ∀ c ∈ e, digitZ c.toNat = true) (h1 : d.length ≤ 4) (h2 : e.length ≤ 4) (hy : Stops digitZ y) (hle : 0 < e.length → numberZ 10 d ≤ numberZ 10 e) :
    timesP (d ++ [42] ++ e ++ y) = timesTok (numberZ 10 d) (if 0 < e.length then numberZ 10 e else -1) (d ++ [42] ++ e).length := by
  have e1 : d ++ [42] ++ e ++ y = d ++ (42 :: (e ++ y)) := by simp
  have hs : spanZ digitZ (d ++ (42 :: (e ++ y))) = d.length := span_app digitZ d _ hd (.inr ⟨42, _, rfl, by decide⟩)
  have hst : standsB (d ++ (42 :: (e ++ y))) d.length 42 = true := by rw [stands_app]; rfl
  have hdr : (d ++ (42 :: (e ++ y))).drop (d.length + 1) = e ++ y := by
    rw [← List.drop_drop, List.drop_left]
    rfl
  have hs2 : spanZ digitZ (e ++ y) = e.length := span_app digitZ e y he hy
  unfold timesP
  rw [e1, hs, hdr, hs2, if_neg (by omega), if_pos hst, if_neg (by omega), List.take_left, List.take_left]
  by_cases h0 : 0 < e.length
  · rw [if_pos h0, if_pos h0, if_neg (by have := hle h0; omega)]
    have hl : (d ++ [42] ++ e : List UInt8).length = d.length + 1 + e.length := by rw [List.length_append, List.length_append]; rfl
    rw [hl]
  · rw [if_neg h0, if_neg h0]
    have h3 : e.length = 0 := by omega
    have hl : (d ++ [42] ++ e : List UInt8).length = d.length + 1 := by rw [List.length_append, List.length_append, h3]; rfl
    rw [hl]
theorem times_plain (d y : List UInt8) (hd : ∀ c ∈ d, digitZ c.toNat = true) (h1 : d.length ≤ 4) (hy : Stops timesZ y) : timesP (d ++ y) = timesTok (numberZ 10 d) (numberZ 10 d) d.length := by
  have hy1 : Stops digitZ y := by
    rcases hy with rfl | ⟨c, r, rfl, hc⟩
    · exact .inl rfl
    · refine .inr ⟨c, r, rfl, ?_⟩
      unfold timesZ at hc
      rw [Bool.or_eq_false_iff] at hc
      exact hc.1
  have hs : spanZ digitZ (d ++ y) = d.length := span_app digitZ d y hd hy1
  have hst : standsB (d ++ y) d.length 42 = false := by
    rcases hy with rfl | ⟨c, r, rfl, hc⟩
    · rw [List.append_nil]; exact stands_none _ _
    · rw [stands_app]
      unfold timesZ at hc
      rw [Bool.or_eq_false_iff] at hc
      exact hc.2
  unfold timesP
  rw [hs, if_neg (by omega), if_neg (by rw [hst]; exact Bool.false_ne_true), List.take_left]
theorem read_often (mn mx : Int) (y : List UInt8) (ht : timesB mn mx = true) (hy : Stops timesZ y) : readP (timesTextP mn mx ++ y) = { tok := { kind := 9, mn := mn, mx := mx }, size := (timesTextP mn mx).length } ∧ timesTextP mn mx ≠ [] := by
  simp only [timesB, Bool.and_eq_true, Bool.or_eq_true, decide_eq_true_eq, beq_iff_eq] at ht
  obtain ⟨⟨h0, h1⟩, h2⟩ := ht
  obtain ⟨m1, m2, m3, m4⟩ := itoa_facts mn h0 h1
  have hy1 : Stops digitZ y := by
    rcases hy with rfl | ⟨c, r, rfl, hc⟩
    · exact .inl rfl
    · refine .inr ⟨c, r, rfl, ?_⟩
      unfold timesZ at hc
      rw [Bool.or_eq_false_iff] at hc
      exact hc.1
  by_cases he : mx = mn
  · subst he
    have e : timesTextP mx mx = Lib.itoa mx := by unfold timesTextP; rw [if_pos rfl]
    rw [e]
    obtain ⟨c, r, hcr⟩ : ∃ c r, Lib.itoa mx = c :: r := by
      cases hl : Lib.itoa mx with
      | nil => rw [hl] at m3; simp at m3
      | cons c r => exact ⟨c, r, rfl⟩
    refine ⟨?_, by rw [hcr]; simp⟩
    rw [read_times (Lib.itoa mx ++ y) c (r ++ y) (by rw [hcr]; rfl) (by unfold timesZ; rw [m1 c (by rw [hcr]; simp)]; rfl), times_plain _ _ m1 m4 hy, m2]
    rfl
  · have e : timesTextP mn mx = (if 0 < mn then Lib.itoa mn else []) ++ [42] ++ (if 0 ≤ mx then Lib.itoa mx else []) := by unfold timesTextP; rw [if_neg he]
    have hD : ∃ D : List UInt8, D = (if 0 < mn then Lib.itoa mn else []) ∧ (∀ c ∈ D, digitZ c.toNat = true) ∧ D.length ≤ 4 ∧ numberZ 10 D = mn := by
      by_cases hp : 0 < mn
      · exact ⟨_, by rw [if_pos hp], m1, m4, m2⟩
      · exact ⟨[], by rw [if_neg hp], (fun c hc => by cases hc), by simp, by show (0 : Int) = mn; omega⟩
    have hE : ∃ E : List UInt8, E = (if 0 ≤ mx then Lib.itoa mx else []) ∧ (∀ c ∈ E, digitZ c.toNat = true) ∧ E.length ≤ 4 ∧ (0 < E.length → mn ≤ numberZ 10 E) ∧ (if 0 < E.length then numberZ 10 E else -1) = mx := by
      by_cases hp : 0 ≤ mx
      · obtain ⟨x1, x2, x3, x4⟩ := itoa_facts mx hp (by omega)
        exact ⟨_, by rw [if_pos hp], x1, x4, fun _ => by rw [x2]; omega, by rw [if_pos (by omega), x2]⟩
      · exact ⟨[], by rw [if_neg hp], (fun c hc => by cases hc), by simp, (fun h => by simp at h), by simp; omega⟩
    obtain ⟨D, d1, d2, d3, d4⟩ := hD
    obtain ⟨E, e1, e2, e3, e4, e5⟩ := hE
    rw [e, ← d1, ← e1]
    refine ⟨?_, by simp⟩
    have hrd : readP (D ++ [42] ++ E ++ y) = timesP (D ++ [42] ++ E ++ y) := by
      cases D with
      | nil => exact read_times _ 42 (E ++ y) (by simp) (by decide)
      | cons c r => exact read_times _ c (r ++ [42] ++ E ++ y) (by simp) (by unfold timesZ; rw [d2 c (by simp)]; rfl)
    rw [hrd, times_42 D E y d2 e2 d3 e3 hy1 (fun h => by rw [d4]; exact e4 h), d4, e5]
    rfl
end Go.Proofs.YtodenbimeojgdaaGreatDoor

/-
  The tokens of a printed tree and of a printed rule, in plain terms. No conditions.
-/
namespace Go.Proofs.YtodenbimeojgdaaGreatDoor
open Go.RowKit

def tOpen : Tk := { kind := 5 }
def tShut : Tk := { kind := 6 }
def kidT (f : Tr → List Tk) (br : List Int) (k : Tr) : List Tk := if br.contains k.kind then [tOpen] ++ f k ++ [tShut] else f k
def kidsTF (f : Tr → List Tk) (ahead between : List Tk) (br : List Int) : List Tr → List Tk
  | [] => []
  | k :: r => ahead ++ kidT f br k ++ kidsTF f between between br r
def toksD : Nat → Tr → List Tk
  | 0, _ => []
  | d + 1, t =>
    if t.kind = 1 then [{ kind := 1, text := t.text }]
    else if t.kind = 2 then [{ kind := 10, text := t.text }]
    else if t.kind = 3 then [{ kind := 11, text := t.text }]
    else if t.kind = 4 then [{ kind := 12, lo := t.lo, hi := t.hi }]
    else if t.kind = 7 then [{ kind := 9, mn := t.mn, mx := t.mx }] ++ kidsTF (toksD d) [] [] [7, 5, 6] t.kids
    else if t.kind = 5 then kidsTF (toksD d) [] [] [5, 6] t.kids
    else if t.kind = 6 then kidsTF (toksD d) [] [{ kind := 4 }] [6] t.kids
    else []

/-- what is known of a tree by being right -/
theorem right_kinds {d : Nat} {t : Tr} (h : rightD d t = true) : ∃ e, d = e + 1 ∧ aloneB t = true ∧ (∀ k ∈ t.kids, rightD e k = true) := by
  cases d with
  | zero => cases h
  | succ e =>
    have e1 : rightD (e + 1) t = (aloneB t && t.kids.all (rightD e)) := rfl
    rw [e1, Bool.and_eq_true, List.all_eq_true] at h
    exact ⟨e, rfl, h.1, h.2⟩
theorem alone_1 {t : Tr} (h : aloneB t = true) (hk : t.kind = 1) : nameB t.text = true ∧ t = .mk 1 t.text 0 0 0 0 [] := by
  obtain ⟨k, tx, lo, hi, mn, mx, ks⟩ := t
  change k = 1 at hk
  subst hk
  have e : aloneB (.mk 1 tx lo hi mn mx ks) = (nameB tx && (lo == 0 && hi == 0) && (mn == 0 && mx == 0) && ks.length == 0) := rfl
  rw [e] at h
  simp only [Bool.and_eq_true, beq_iff_eq, List.length_eq_zero_iff] at h
  obtain ⟨⟨⟨h1, rfl, rfl⟩, rfl, rfl⟩, rfl⟩ := h
  exact ⟨h1, rfl⟩
theorem alone_2 {t : Tr} (h : aloneB t = true) (hk : t.kind = 2) : charsB t.text = true ∧ t = .mk 2 t.text 0 0 0 0 [] := by
  obtain ⟨k, tx, lo, hi, mn, mx, ks⟩ := t
  change k = 2 at hk
  subst hk
  have e : aloneB (.mk 2 tx lo hi mn mx ks) = (charsB tx && (lo == 0 && hi == 0) && (mn == 0 && mx == 0) && ks.length == 0) := rfl
  rw [e] at h
  simp only [Bool.and_eq_true, beq_iff_eq, List.length_eq_zero_iff] at h
  obtain ⟨⟨⟨h1, rfl, rfl⟩, rfl, rfl⟩, rfl⟩ := h
  exact ⟨h1, rfl⟩
theorem alone_3 {t : Tr} (h : aloneB t = true) (hk : t.kind = 3) : t.text ≠ [] ∧ t = .mk 3 t.text 0 0 0 0 [] := by
  obtain ⟨k, tx, lo, hi, mn, mx, ks⟩ := t
  change k = 3 at hk
  subst hk
  have e : aloneB (.mk 3 tx lo hi mn mx ks) = (!tx.isEmpty && (lo == 0 && hi == 0) && (mn == 0 && mx == 0) && ks.length == 0) := rfl
  rw [e] at h
  simp only [Bool.and_eq_true, beq_iff_eq, List.length_eq_zero_iff, Bool.not_eq_true', List.isEmpty_eq_false_iff] at h
  obtain ⟨⟨⟨h1, rfl, rfl⟩, rfl, rfl⟩, rfl⟩ := h
  exact ⟨h1, rfl⟩
theorem alone_4 {t : Tr} (h : aloneB t = true) (hk : t.kind = 4) : t.lo ≤ t.hi ∧ t = .mk 4 [] t.lo t.hi 0 0 [] := by
  obtain ⟨k, tx, lo, hi, mn, mx, ks⟩ := t
  change k = 4 at hk
  subst hk
  have e : aloneB (.mk 4 tx lo hi mn mx ks) = (tx.isEmpty && decide (lo ≤ hi) && (mn == 0 && mx == 0) && ks.length == 0) := rfl
  rw [e] at h
  simp only [Bool.and_eq_true, beq_iff_eq, List.length_eq_zero_iff, List.isEmpty_iff, decide_eq_true_eq] at h
  obtain ⟨⟨⟨rfl, h1⟩, rfl, rfl⟩, rfl⟩ := h
  exact ⟨h1, rfl⟩
theorem alone_56 {t : Tr} (h : aloneB t = true) (hk : t.kind = 5 ∨ t.kind = 6) : 2 ≤ t.kids.length ∧ t = .mk t.kind [] 0 0 0 0 t.kids := by
  obtain ⟨k, tx, lo, hi, mn, mx, ks⟩ := t
  change k = 5 ∨ k = 6 at hk
  have e : aloneB (.mk k tx lo hi mn mx ks) = (tx.isEmpty && (lo == 0 && hi == 0) && (mn == 0 && mx == 0) && decide (2 ≤ ks.length)) := by
    rcases hk with rfl | rfl <;> rfl
  rw [e] at h
  simp only [Bool.and_eq_true, beq_iff_eq, List.isEmpty_iff, decide_eq_true_eq] at h
  obtain ⟨⟨⟨rfl, rfl, rfl⟩, rfl, rfl⟩, h1⟩ := h
  exact ⟨h1, rfl⟩
theorem alone_7 {t : Tr} (h : aloneB t = true) (hk : t.kind = 7) : timesB t.mn t.mx = true ∧ ∃ k, t = .mk 7 [] 0 0 t.mn t.mx [k] := by
  obtain ⟨k, tx, lo, hi, mn, mx, ks⟩ := t
  change k = 7 at hk
  subst hk
  have e : aloneB (.mk 7 tx lo hi mn mx ks) = (tx.isEmpty && (lo == 0 && hi == 0) && timesB mn mx && ks.length == 1) := rfl
  rw [e] at h
  simp only [Bool.and_eq_true, beq_iff_eq, List.isEmpty_iff] at h
  obtain ⟨⟨⟨rfl, rfl, rfl⟩, h1⟩, h2⟩ := h
  match ks, h2 with
  | [x], _ => exact ⟨h1, x, rfl⟩
theorem alone_kind {t : Tr} (h : aloneB t = true) : t.kind = 1 ∨ t.kind = 2 ∨ t.kind = 3 ∨ t.kind = 4 ∨ t.kind = 5 ∨ t.kind = 6 ∨ t.kind = 7 := by
  unfold aloneB at h
  by_cases h1 : t.kind = 1
  · exact .inl h1
  rw [if_neg h1] at h
  by_cases h2 : t.kind = 2
  · exact .inr (.inl h2)
  rw [if_neg h2] at h
  by_cases h3 : t.kind = 3
  · exact .inr (.inr (.inl h3))
  rw [if_neg h3] at h
  by_cases h4 : t.kind = 4
  · exact .inr (.inr (.inr (.inl h4)))
  rw [if_neg h4] at h
  by_cases h5 : t.kind = 5 ∨ t.kind = 6
  · omega
  rw [if_neg h5] at h
  by_cases h7 : t.kind = 7
  · omega
  rw [if_neg h7] at h
  cases h

/-! ### single tokens -/
theorem mid_open (y : List UInt8) (ts : List Tk) (h : Mid y ts) : Mid ([40] ++ y) ([tOpen] ++ ts) := mid_piece [40] y tOpen ts rfl (by decide) rfl (by simp) h
theorem mid_shut (y : List UInt8) (ts : List Tk) (h : Mid y ts) : Mid ([41] ++ y) ([tShut] ++ ts) := mid_piece [41] y tShut ts rfl (by decide) rfl (by simp) h
theorem mid_slash (y : List UInt8) (ts : List Tk) (h : Mid y ts) : Mid ([47] ++ y) ([{ kind := 4 }] ++ ts) := mid_piece [47] y { kind := 4 } ts rfl (by decide) rfl (by simp) h
theorem mid_gap (y : List UInt8) (ts : List Tk) (h : Mid y ts) : Mid ([32] ++ y) ts := mid_blank 32 y ts rfl h
theorem mid_or (y : List UInt8) (ts : List Tk) (h : Mid y ts) : Mid ([32, 47, 32] ++ y) ([{ kind := 4 }] ++ ts) := mid_gap _ _ (mid_slash _ _ (mid_gap _ _ h))

/-- how a text is read that ends where it may -/
def Reads (x : List UInt8) (us : List Tk) : Prop := ∀ y ts, Ends y → Mid y ts → Mid (x ++ y) (us ++ ts)
theorem reads_bracket {x : List UInt8} {us : List Tk} (h : Reads x us) : Reads ([40] ++ x ++ [41]) ([tOpen] ++ us ++ [tShut]) := by
  intro y ts hy hm
  rw [show [40] ++ x ++ [41] ++ y = [40] ++ (x ++ ([41] ++ y)) from by simp, show [tOpen] ++ us ++ [tShut] ++ ts = [tOpen] ++ (us ++ ([tShut] ++ ts)) from by simp]
  exact mid_open _ _ (h _ _ (.inr (.inr ⟨y, rfl⟩)) (mid_shut _ _ hm))
theorem reads_kid {f : Tr → List UInt8} {g : Tr → List Tk} {br : List Int} {k : Tr} (h : Reads (f k) (g k)) : Reads (kidP f br k) (kidT g br k) := by
  unfold kidP kidT
  split
  · exact reads_bracket h
  · exact h
theorem ends_32 (y : List UInt8) : Ends (32 :: y) := .inr (.inl ⟨y, rfl⟩)
/-- kids with blanks between, and perhaps more than a blank -/
theorem reads_kids (f : Tr → List UInt8) (g : Tr → List Tk) (br : List Int) (bw : List UInt8) (tw : List Tk) (hbw : ∃ z, bw = 32 :: z) (hmid : ∀ y ts, Mid y ts → Mid (bw ++ y) (tw ++ ts)) : ∀ (ks : List Tr), (∀ k ∈ ks, Reads (f k) (g k)) →
    Reads (kidsF f bw bw br ks) (kidsTF g tw tw br ks) ∧ (ks ≠ [] → Reads (kidsF f [] bw br ks) (kidsTF g [] tw br ks)) := by
  intro ks
  induction ks with
  | nil => intro _; exact ⟨fun y ts _ hm => hm, fun h => absurd rfl h⟩
  | cons k r ih =>
    intro h
    have hk := reads_kid (br := br) (h k (by simp))
    have hr := (ih (fun x hx => h x (by simp [hx]))).1
    have key : ∀ y ts, Ends y → Mid y ts → Mid (kidP f br k ++ (kidsF f bw bw br r ++ y)) (kidT g br k ++ (kidsTF g tw tw br r ++ ts)) := by
      intro y ts hy hm
      refine hk _ _ ?_ (hr y ts hy hm)
      cases r with
      | nil => exact hy
      | cons k2 r =>
        obtain ⟨z, rfl⟩ := hbw
        exact .inr (.inl ⟨z ++ kidP f br k2 ++ kidsF f (32 :: z) (32 :: z) br r ++ y, by simp [kidsF]⟩)
    constructor
    · intro y ts hy hm
      have := hmid _ _ (key y ts hy hm)
      rw [show kidsF f bw bw br (k :: r) ++ y = bw ++ (kidP f br k ++ (kidsF f bw bw br r ++ y)) from by simp [kidsF], show kidsTF g tw tw br (k :: r) ++ ts = tw ++ (kidT g br k ++ (kidsTF g tw tw br r ++ ts)) from by simp [kidsTF]]
      exact this
    · intro _ y ts hy hm
      have := key y ts hy hm
      rw [show kidsF f [] bw br (k :: r) ++ y = kidP f br k ++ (kidsF f bw bw br r ++ y) from by simp [kidsF], show kidsTF g [] tw br (k :: r) ++ ts = kidT g br k ++ (kidsTF g tw tw br r ++ ts) from by simp [kidsTF]]
      exact this
/-- a printed tree's first byte, where it is no row of several -/
theorem first_kid {d : Nat} {k : Tr} (h : rightD d k = true) (y : List UInt8) : Stops timesZ (kidP (printD d) [7, 5, 6] k ++ y) := by
  obtain ⟨e, rfl, ha, _⟩ := right_kinds h
  unfold kidP
  split
  · exact .inr ⟨40, printD (e + 1) k ++ [41] ++ y, by simp, by decide⟩
  · rename_i hbr
    have hn : k.kind ≠ 7 ∧ k.kind ≠ 5 ∧ k.kind ≠ 6 := by
      simp only [List.contains_cons, List.contains_nil, Bool.or_false, Bool.or_eq_true, beq_iff_eq, not_or] at hbr
      exact hbr
    rcases alone_kind ha with h1 | h1 | h1 | h1 | h1 | h1 | h1
    · obtain ⟨hnm, _⟩ := alone_1 ha h1
      obtain ⟨c, r, hcr, hl, _⟩ := name_parts hnm
      refine .inr ⟨c, r ++ y, by rw [printD, if_pos h1, hcr]; rfl, ?_⟩
      exact byte_all (p := fun c => letterZ c.toNat = true → timesZ c.toNat = false) (by decide +kernel) c hl
    · exact .inr ⟨34, k.text ++ [34] ++ y, by rw [printD, if_neg (by omega), if_pos h1]; simp, by decide⟩
    · obtain ⟨hne, _⟩ := alone_3 ha h1
      cases htx : k.text with
      | nil => exact absurd htx hne
      | cons x r => exact .inr ⟨37, [120] ++ pairP x ++ hexesP [46] [46] r ++ y, by rw [printD, if_neg (by omega), if_neg (by omega), if_pos h1, htx]; simp [hexesP], by decide⟩
    · exact .inr ⟨37, _, by rw [printD, if_neg (by omega), if_neg (by omega), if_neg (by omega), if_pos h1]; simp only [hexesP]; rfl, by decide⟩
    · omega
    · omega
    · omega
/-- a printed tree is read as its tokens -/
theorem print_reads : ∀ (d : Nat) (t : Tr), rightD d t = true → byteD d t → Reads (printD d t) (toksD d t) := by
  intro d
  induction d with
  | zero => intro t h; cases h
  | succ d ih =>
    intro t h hy
    obtain ⟨e, he, ha, hkids⟩ := right_kinds h
    obtain rfl : d = e := by omega
    obtain ⟨hlo, hhi, hby⟩ := hy
    have hrec : ∀ k ∈ t.kids, Reads (printD d k) (toksD d k) := fun k hk => ih k (hkids k hk) (hby k hk)
    rcases alone_kind ha with h1 | h1 | h1 | h1 | h1 | h1 | h1
    · intro y ts hE hm
      rw [printD, toksD, if_pos h1, if_pos h1]
      exact mid_piece _ _ _ _ (read_word _ _ (name_parts (alone_1 ha h1).1) (hE.stops _ (by decide) (by decide))) (by show (1 : Int) ≠ 0; omega) rfl (by obtain ⟨c, r, hcr, _⟩ := name_parts (alone_1 ha h1).1; rw [hcr]; simp) hm
    · intro y ts hE hm
      rw [printD, toksD, if_neg (by omega), if_pos h1, if_neg (by omega), if_pos h1]
      exact mid_piece _ _ _ _ (read_quoted _ _ (alone_2 ha h1).1) (by show (10 : Int) ≠ 0; omega) rfl (by simp) hm
    · intro y ts hE hm
      rw [printD, toksD, if_neg (by omega), if_neg (by omega), if_pos h1, if_neg (by omega), if_neg (by omega), if_pos h1]
      obtain ⟨hne, _⟩ := alone_3 ha h1
      cases htx : t.text with
      | nil => exact absurd htx hne
      | cons x r => exact mid_piece _ _ _ _ (read_bytes x r y hE) (by show (11 : Int) ≠ 0; omega) rfl (by simp [hexesP]) hm
    · intro y ts hE hm
      rw [printD, toksD, if_neg (by omega), if_neg (by omega), if_neg (by omega), if_pos h1, if_neg (by omega), if_neg (by omega), if_neg (by omega), if_pos h1]
      obtain ⟨hle, _⟩ := alone_4 ha h1
      have e1 := byteOf_toNat t.lo hlo.1 hlo.2
      have e2 := byteOf_toNat t.hi hhi.1 hhi.2
      have := mid_piece _ _ _ _ (read_range (byteOf t.lo) (byteOf t.hi) y hE (by rw [e1, e2]; exact hle)) (by show (12 : Int) ≠ 0; omega) rfl (by simp [hexesP]) hm
      rw [e1, e2] at this
      exact this
    · rw [printD, toksD, if_neg (by omega), if_neg (by omega), if_neg (by omega), if_neg (by omega), if_neg (by omega), if_pos h1, if_neg (by omega), if_neg (by omega), if_neg (by omega), if_neg (by omega), if_neg (by omega), if_pos h1]
      have h2 := (alone_56 ha (.inl h1)).1
      exact (reads_kids (printD d) (toksD d) [5, 6] [32] [] ⟨[], rfl⟩ mid_gap t.kids hrec).2 (fun e => by rw [e] at h2; simp at h2)
    · rw [printD, toksD, if_neg (by omega), if_neg (by omega), if_neg (by omega), if_neg (by omega), if_neg (by omega), if_neg (by omega), if_pos h1, if_neg (by omega), if_neg (by omega), if_neg (by omega), if_neg (by omega), if_neg (by omega), if_neg (by omega), if_pos h1]
      have h2 := (alone_56 ha (.inr h1)).1
      exact (reads_kids (printD d) (toksD d) [6] [32, 47, 32] [{ kind := 4 }] ⟨[47, 32], rfl⟩ mid_or t.kids hrec).2 (fun e => by rw [e] at h2; simp at h2)
    · intro y ts hE hm
      obtain ⟨htm, k, hk⟩ := alone_7 ha h1
      have hks : t.kids = [k] := by rw [hk]; rfl
      rw [printD, toksD, if_neg (by omega), if_neg (by omega), if_neg (by omega), if_neg (by omega), if_pos h1, if_neg (by omega), if_neg (by omega), if_neg (by omega), if_neg (by omega), if_pos h1, hks]
      have hkk : k ∈ t.kids := by rw [hks]; simp
      have hm2 := reads_kid (br := [7, 5, 6]) (hrec k hkk) y ts hE hm
      rw [show timesTextP t.mn t.mx ++ kidsP (printD d) [] [7, 5, 6] [k] ++ y = timesTextP t.mn t.mx ++ (kidP (printD d) [7, 5, 6] k ++ y) from by simp [kidsP, kidsF], show [({ kind := 9, mn := t.mn, mx := t.mx } : Tk)] ++ kidsTF (toksD d) [] [] [7, 5, 6] [k] ++ ts = { kind := 9, mn := t.mn, mx := t.mx } :: (kidT (toksD d) [7, 5, 6] k ++ ts) from by simp [kidsTF]]
      obtain ⟨hr, hne⟩ := read_often t.mn t.mx (kidP (printD d) [7, 5, 6] k ++ y) htm (first_kid (hkids k hkk) y)
      exact mid_piece _ _ _ _ hr (by show (9 : Int) ≠ 0; omega) rfl hne hm2
end Go.Proofs.YtodenbimeojgdaaGreatDoor

/-
  The tokens of a printed tree are parsed as that tree, in plain terms. No conditions.
-/
namespace Go.Proofs.YtodenbimeojgdaaGreatDoor
open Go.RowKit

/-! ### fuel -/
theorem stands_lt {l : List Tk} {at_ : Nat} {ks : List Int} (h : standsP l at_ ks = true) : at_ < l.length := by
  unfold standsP at h
  cases ht : l[at_]? with
  | none => rw [ht] at h; cases h
  | some t => exact (List.getElem?_eq_some_iff.1 ht).1
theorem stands_past {l : List Tk} {at_ : Nat} (ks : List Int) (h : l.length ≤ at_) : standsP l at_ ks = false := by
  unfold standsP
  rw [List.getElem?_eq_none h]
theorem leaf_past {l : List Tk} {at_ : Nat} (ks : List Int) (h : l.length ≤ at_) : leafP l at_ ks = none := by
  unfold leafP
  rw [List.getElem?_eq_none h]
theorem part_past {l : List Tk} {f at_ : Nat} {tm : Tr} {st : List Grp} (h : l.length ≤ at_) : partF l f at_ tm st = (false, at_, st) := by
  cases f with
  | zero => rfl
  | succ f => rw [partF, if_neg (by rw [stands_past _ h]; exact Bool.false_ne_true), leaf_past _ h]
theorem part_fuel (l : List Tk) : ∀ (f f' at_ : Nat) (tm : Tr) (st : List Grp), l.length < f + at_ → l.length < f' + at_ → partF l f at_ tm st = partF l f' at_ tm st := by
  intro f
  induction f with
  | zero => intro f' at_ tm st h1 h2; rw [part_past (by omega), part_past (by omega)]
  | succ f ih =>
    intro f' at_ tm st h1 h2
    by_cases hp : l.length ≤ at_
    · rw [part_past hp, part_past hp]
    · obtain ⟨f', rfl⟩ : ∃ g, f' = g + 1 := ⟨f' - 1, by omega⟩
      have hh := (howP_tree l (at_ + 1)).2.2
      rw [partF, partF]
      split
      · exact ih _ _ _ _ (by omega) (by omega)
      · rfl
theorem part_adv (l : List Tk) : ∀ (f at_ : Nat) (tm : Tr) (st : List Grp), (partF l f at_ tm st).1 = true → at_ < (partF l f at_ tm st).2.1 := by
  intro f
  induction f with
  | zero => intro at_ tm st h; cases h
  | succ f ih =>
    intro at_ tm st h
    have hh := (howP_tree l (at_ + 1)).2.2
    rw [partF] at h ⊢
    split at h
    · rename_i hs
      rw [if_pos hs]
      have := ih _ _ _ h
      omega
    · rename_i hs
      rw [if_neg hs]
      cases hl : leafP l at_ [1, 10, 11, 12] with
      | none => rw [hl] at h; cases h
      | some t => exact Nat.lt_succ_self _
theorem shut_past {l : List Tk} {f at_ : Nat} {st : List Grp} (h : l.length ≤ at_) : shutF l f at_ st = (none, at_, st) := by
  cases f with
  | zero => rfl
  | succ f => rw [shutF, if_neg (by rw [stands_past _ h]; exact Bool.false_ne_true)]
theorem shut_fuel (l : List Tk) : ∀ (f f' at_ : Nat) (st : List Grp), l.length < f + at_ → l.length < f' + at_ → shutF l f at_ st = shutF l f' at_ st := by
  intro f
  induction f with
  | zero => intro f' at_ st h1 h2; rw [shut_past (by omega), shut_past (by omega)]
  | succ f ih =>
    intro f' at_ st h1 h2
    by_cases hp : l.length ≤ at_
    · rw [shut_past hp, shut_past hp]
    · obtain ⟨f', rfl⟩ : ∃ g, f' = g + 1 := ⟨f' - 1, by omega⟩
      rw [shutF, shutF]
      split
      · split
        · rfl
        · exact ih _ _ _ (by omega) (by omega)
      · rfl
theorem partP_past {l : List Tk} {at_ : Nat} {st : List Grp} (h : l.length ≤ at_) : partP l at_ st = (false, at_, st) := by
  have e : howP l at_ = (noTree, at_) := by unfold howP; rw [List.getElem?_eq_none h]
  unfold partP
  rw [e]
  exact part_past h
theorem partP_adv {l : List Tk} {at_ : Nat} {st : List Grp} (h : (partP l at_ st).1 = true) : at_ < (partP l at_ st).2.1 := by
  have h1 := part_adv l (l.length + 1) (howP l at_).2 (howP l at_).1 st h
  have h2 := (howP_tree l at_).2.2
  unfold partP
  omega
theorem choices_fuel (l : List Tk) : ∀ (f f' at_ : Nat) (st : List Grp), l.length < f + at_ → l.length < f' + at_ → choicesF l f at_ st = choicesF l f' at_ st := by
  intro f
  induction f with
  | zero =>
    intro f' at_ st h1 h2
    cases f' with
    | zero => rfl
    | succ f' =>
      rw [choicesF, choicesF, partP_past (by omega)]
      rfl
  | succ f ih =>
    intro f' at_ st h1 h2
    by_cases hp : l.length ≤ at_
    · cases f' with
      | zero =>
        rw [choicesF, choicesF, partP_past hp]
        rfl
      | succ f' => rw [choicesF, choicesF, partP_past hp]; rfl
    · obtain ⟨f', rfl⟩ : ∃ g, f' = g + 1 := ⟨f' - 1, by omega⟩
      rw [choicesF, choicesF]
      by_cases hpp : (partP l at_ st).1 = true
      · rw [if_pos hpp, if_pos hpp]
        have ha := partP_adv hpp
        have hs := shutF_ge l (l.length + 1) (partP l at_ st).2.1 (partP l at_ st).2.2
        change (partP l at_ st).2.1 ≤ (shutP l (partP l at_ st).2.1 (partP l at_ st).2.2).2.1 at hs
        generalize shutP l (partP l at_ st).2.1 (partP l at_ st).2.2 = SP at *
        obtain ⟨o, a, s⟩ := SP
        simp only at hs
        cases o with
        | some t => rfl
        | none =>
          simp only
          split
          · exact ih _ _ _ (by omega) (by omega)
          · exact ih _ _ _ (by omega) (by omega)
      · rw [if_neg hpp, if_neg hpp]

/-! ### the parser, without fuel -/
def CC (l : List Tk) (at_ : Nat) (st : List Grp) : Option Tr × Nat := choicesF l (l.length + 1) at_ st
def AA (l : List Tk) (at_ : Nat) (st : List Grp) : Option Tr × Nat :=
  match shutP l at_ st with
  | (some t, at2, _) => (some t, at2)
  | (none, at2, st2) => if standsP l at2 [4] = true then CC l (at2 + 1) (onTop endRowP st2) else CC l at2 st2
def DD (l : List Tk) (at_ : Nat) (tm : Tr) (st : List Grp) : Option Tr × Nat :=
  if (partF l (l.length + 1) at_ tm st).1 = true then AA l (partF l (l.length + 1) at_ tm st).2.1 (partF l (l.length + 1) at_ tm st).2.2 else (none, (partF l (l.length + 1) at_ tm st).2.1)
theorem CC_eq (l : List Tk) (at_ : Nat) (st : List Grp) : CC l at_ st = DD l (howP l at_).2 (howP l at_).1 st := by
  unfold CC DD
  rw [choicesF]
  show (if (partP l at_ st).1 = true then _ else (none, (partP l at_ st).2.1)) = if (partP l at_ st).1 = true then AA l (partP l at_ st).2.1 (partP l at_ st).2.2 else (none, (partP l at_ st).2.1)
  by_cases hpp : (partP l at_ st).1 = true
  · rw [if_pos hpp, if_pos hpp]
    have ha := partP_adv hpp
    have hs := shutF_ge l (l.length + 1) (partP l at_ st).2.1 (partP l at_ st).2.2
    change (partP l at_ st).2.1 ≤ (shutP l (partP l at_ st).2.1 (partP l at_ st).2.2).2.1 at hs
    unfold AA
    generalize shutP l (partP l at_ st).2.1 (partP l at_ st).2.2 = SP at *
    obtain ⟨o, a, s⟩ := SP
    simp only at hs
    cases o with
    | some t => rfl
    | none =>
      simp only
      unfold CC
      rw [choices_fuel l l.length (l.length + 1) (a + 1) _ (by omega) (by omega), choices_fuel l l.length (l.length + 1) a _ (by omega) (by omega)]
  · rw [if_neg hpp, if_neg hpp]

/-! ### what stands at a place -/
def restB (l : List Tk) (at_ : Nat) : List Tk := (l.drop at_).map bare
theorem rest_cons {l : List Tk} {at_ : Nat} {u : Tk} {r : List Tk} (h : restB l at_ = u :: r) : (∃ t, l[at_]? = some t ∧ bare t = u) ∧ restB l (at_ + 1) = r := by
  unfold restB at h ⊢
  cases hd : l.drop at_ with
  | nil => rw [hd] at h; cases h
  | cons t q =>
    rw [hd, List.map_cons] at h
    injection h with h1 h2
    refine ⟨⟨t, ?_, h1⟩, ?_⟩
    · have := List.getElem?_drop (xs := l) (i := at_) (j := 0)
      rw [hd] at this
      simpa using this.symm
    · rw [← List.drop_drop, hd]
      exact h2
theorem rest_drop {l : List Tk} {at_ : Nat} {a b : List Tk} (h : restB l at_ = a ++ b) : restB l (at_ + a.length) = b := by
  unfold restB at h ⊢
  rw [← List.drop_drop, List.map_drop, h, List.drop_left]
theorem stands_rest {l : List Tk} {at_ : Nat} {u : Tk} {r : List Tk} (h : restB l at_ = u :: r) (ks : List Int) : standsP l at_ ks = ks.contains u.kind := by
  obtain ⟨⟨t, ht, rfl⟩, _⟩ := rest_cons h
  unfold standsP
  rw [ht]
  rfl
theorem leaf_rest {l : List Tk} {at_ : Nat} {u : Tk} {r : List Tk} (h : restB l at_ = u :: r) (ks : List Int) : leafP l at_ ks = if ks.contains u.kind = true ∧ rightB (meaningP u) = true then some (meaningP u) else none := by
  obtain ⟨⟨t, ht, rfl⟩, _⟩ := rest_cons h
  unfold leafP
  rw [ht]
  rfl
theorem how_rest {l : List Tk} {at_ : Nat} {u : Tk} {r : List Tk} (h : restB l at_ = u :: r) : howP l at_ = if u.kind = 9 ∧ timesB u.mn u.mx = true then (timesT u.mn u.mx, at_ + 1) else (noTree, at_) := by
  obtain ⟨⟨t, ht, rfl⟩, _⟩ := rest_cons h
  unfold howP
  rw [ht]
  rfl
theorem onTop_last (f : Grp → Grp) : ∀ (st : List Grp) (g : Grp), onTop f (st ++ [g]) = st ++ [f g] := by
  intro st
  induction st with
  | nil => intro g; rfl
  | cons h r ih =>
    intro g
    cases r with
    | nil => rfl
    | cons k r =>
      have := ih g
      rw [List.cons_append] at this
      rw [List.cons_append, List.cons_append, onTop, this]
      rfl
theorem top_snoc (st : List Grp) (g : Grp) : topG (st ++ [g]) = g := by
  unfold topG
  simp
def newG (tm : Tr) : Grp := { shut := 6, times := tm, rows := [], parts := [] }

theorem D_leaf {l : List Tk} {at_ : Nat} {u : Tk} {r : List Tk} (h : restB l at_ = u :: r) (hk : [1, 10, 11, 12].contains u.kind = true) (hr : rightB (meaningP u) = true) (tm : Tr) (st : List Grp) (g : Grp) :
    DD l at_ tm (st ++ [g]) = AA l (at_ + 1) (st ++ [addG (repeatP tm (meaningP u)) g]) := by
  have h57 : ([5, 7] : List Int).contains u.kind = false := by
    simp only [List.contains_cons, List.contains_nil, Bool.or_false, Bool.or_eq_true, beq_iff_eq] at hk
    simp only [List.contains_cons, List.contains_nil, Bool.or_false, Bool.or_eq_false_iff, beq_eq_false_iff_ne]
    omega
  have e : partF l (l.length + 1) at_ tm (st ++ [g]) = (true, at_ + 1, st ++ [addG (repeatP tm (meaningP u)) g]) := by
    rw [partF, if_neg (by rw [stands_rest h, h57]; exact Bool.false_ne_true), leaf_rest h, if_pos ⟨hk, hr⟩]
    show (true, at_ + 1, onTop (addG (repeatP tm (meaningP u))) (st ++ [g])) = _
    rw [onTop_last]
  unfold DD
  rw [e]
  rfl
theorem D_open {l : List Tk} {at_ : Nat} {r : List Tk} (h : restB l at_ = tOpen :: r) (tm : Tr) (st : List Grp) : DD l at_ tm st = CC l (at_ + 1) (st ++ [newG tm]) := by
  have hg : openG l at_ tm = newG tm := by
    unfold openG newG
    rw [stands_rest h]
    rfl
  have hh := (howP_tree l (at_ + 1)).2.2
  have e : partF l (l.length + 1) at_ tm st = partF l (l.length + 1) (howP l (at_ + 1)).2 (howP l (at_ + 1)).1 (st ++ [newG tm]) := by
    rw [partF, if_pos (by rw [stands_rest h]; rfl), hg]
    exact part_fuel l _ _ _ _ _ (by omega) (by omega)
  rw [CC_eq]
  unfold DD
  rw [e]
theorem A_shut {l : List Tk} {at_ : Nat} {r : List Tk} (h : restB l at_ = tShut :: r) (st : List Grp) (k g : Grp) (hg : g.shut = 6) : AA l at_ (st ++ [k] ++ [g]) = AA l (at_ + 1) (st ++ [addG (wholeP g) k]) := by
  have e : shutP l at_ (st ++ [k] ++ [g]) = shutP l (at_ + 1) (st ++ [addG (wholeP g) k]) := by
    unfold shutP
    rw [shutF, top_snoc, if_pos (by rw [stands_rest h, hg]; rfl), List.dropLast_concat, if_neg (by simp), onTop_last]
    exact shut_fuel l _ _ _ _ (by omega) (by omega)
  unfold AA
  rw [e]
theorem A_end {l : List Tk} {at_ : Nat} {r : List Tk} {u : Tk} (h : restB l at_ = u :: r) (hu : u.kind = 13) (g : Grp) (hg : g.shut = 13) : AA l at_ [g] = (some (wholeP g), at_ + 1) := by
  have e : shutP l at_ [g] = (some (wholeP g), at_ + 1, []) := by
    unfold shutP
    rw [shutF, show topG [g] = g from rfl, if_pos (by rw [stands_rest h, hu, hg]; rfl), if_pos (by simp)]
  unfold AA
  rw [e]
theorem shut_not {l : List Tk} {at_ : Nat} {r : List Tk} {u : Tk} (h : restB l at_ = u :: r) (st : List Grp) (g : Grp) (hg : u.kind ≠ g.shut) : shutP l at_ (st ++ [g]) = (none, at_, st ++ [g]) := by
  unfold shutP
  rw [shutF, top_snoc, if_neg ?_]
  rw [stands_rest h]
  simp only [List.contains_cons, List.contains_nil, Bool.or_false, beq_iff_eq]
  exact hg
theorem A_or {l : List Tk} {at_ : Nat} {r : List Tk} {u : Tk} (h : restB l at_ = u :: r) (hu : u.kind = 4) (st : List Grp) (g : Grp) (hg : g.shut = 6 ∨ g.shut = 13) : AA l at_ (st ++ [g]) = CC l (at_ + 1) (st ++ [endRowP g]) := by
  unfold AA
  rw [shut_not h st g (by omega)]
  simp only
  rw [if_pos (by rw [stands_rest h, hu]; rfl), onTop_last]
theorem A_next {l : List Tk} {at_ : Nat} {r : List Tk} {u : Tk} (h : restB l at_ = u :: r) (h4 : u.kind ≠ 4) (st : List Grp) (g : Grp) (hg : u.kind ≠ g.shut) : AA l at_ (st ++ [g]) = CC l at_ (st ++ [g]) := by
  unfold AA
  rw [shut_not h st g hg]
  simp only
  rw [if_neg ?_]
  rw [stands_rest h]
  simp only [List.contains_cons, List.contains_nil, Bool.or_false, beq_iff_eq]
  exact h4

/-! ### leaves -/
theorem small_small (c : UInt8) : nameTailZ c.toNat = true → smallC c = c := byte_all (p := fun c => nameTailZ c.toNat = true → smallC c = c) (by decide +kernel) c
theorem name_small {l : List UInt8} (h : nameB l = true) : l.map smallC = l := by
  conv => rhs; rw [← List.map_id l]
  apply List.map_congr_left
  intro c hc
  cases l with
  | nil => cases hc
  | cons a r =>
    have e : nameB (a :: r) = (smallZ a.toNat && r.all (fun c => nameTailZ c.toNat)) := rfl
    rw [e, Bool.and_eq_true, List.all_eq_true] at h
    rcases List.mem_cons.1 hc with rfl | hc
    · exact small_small _ (letter_of_small _ h.1).2
    · exact small_small _ (h.2 c hc)
theorem right_leaf {t : Tr} (h : aloneB t = true) (hk : t.kids = []) : rightB t = true := by
  have e : rightB t = (aloneB t && t.kids.all (rightD 99)) := rfl
  rw [e, h, hk]
  rfl
/-- a leaf's one token -/
theorem leaf_tok {d : Nat} {t : Tr} (ha : aloneB t = true) (hk : t.kind = 1 ∨ t.kind = 2 ∨ t.kind = 3 ∨ t.kind = 4) : ∃ u, toksD (d + 1) t = [u] ∧ meaningP u = t ∧ [1, 10, 11, 12].contains u.kind = true ∧ rightB (meaningP u) = true := by
  rcases hk with h1 | h1 | h1 | h1
  · obtain ⟨hn, ht⟩ := alone_1 ha h1
    have hm : meaningP { kind := 1, text := t.text } = t := by
      show Tr.mk 1 (t.text.map smallC) 0 0 0 0 [] = t
      rw [name_small hn]
      exact ht.symm
    refine ⟨{ kind := 1, text := t.text }, by rw [toksD, if_pos h1], hm, rfl, ?_⟩
    rw [hm]
    exact right_leaf ha (by rw [ht]; rfl)
  · obtain ⟨hn, ht⟩ := alone_2 ha h1
    have hm : meaningP { kind := 10, text := t.text } = t := ht.symm
    refine ⟨{ kind := 10, text := t.text }, by rw [toksD, if_neg (by omega), if_pos h1], hm, rfl, ?_⟩
    rw [hm]
    exact right_leaf ha (by rw [ht]; rfl)
  · obtain ⟨hn, ht⟩ := alone_3 ha h1
    have hm : meaningP { kind := 11, text := t.text } = t := ht.symm
    refine ⟨{ kind := 11, text := t.text }, by rw [toksD, if_neg (by omega), if_neg (by omega), if_pos h1], hm, rfl, ?_⟩
    rw [hm]
    exact right_leaf ha (by rw [ht]; rfl)
  · obtain ⟨hn, ht⟩ := alone_4 ha h1
    have hm : meaningP { kind := 12, lo := t.lo, hi := t.hi } = t := ht.symm
    refine ⟨{ kind := 12, lo := t.lo, hi := t.hi }, by rw [toksD, if_neg (by omega), if_neg (by omega), if_neg (by omega), if_pos h1], hm, rfl, ?_⟩
    rw [hm]
    exact right_leaf ha (by rw [ht]; rfl)
def FirstK (k : Int) : Prop := k = 1 ∨ k = 10 ∨ k = 11 ∨ k = 12 ∨ k = 9 ∨ k = 5
theorem kid_first {f : Tr → List Tk} {br : List Int} {k : Tr} (h : ∃ u r, f k = u :: r ∧ FirstK u.kind) : ∃ u r, kidT f br k = u :: r ∧ FirstK u.kind := by
  unfold kidT
  split
  · exact ⟨tOpen, f k ++ [tShut], by simp, .inr (.inr (.inr (.inr (.inr rfl))))⟩
  · exact h
theorem toks_first : ∀ (d : Nat) (t : Tr), rightD d t = true → ∃ u r, toksD d t = u :: r ∧ FirstK u.kind := by
  intro d
  induction d with
  | zero => intro t h; cases h
  | succ d ih =>
    intro t h
    obtain ⟨e, he, ha, hkids⟩ := right_kinds h
    obtain rfl : d = e := by omega
    have hl : (t.kind = 1 ∨ t.kind = 2 ∨ t.kind = 3 ∨ t.kind = 4) → ∃ u r, toksD (d + 1) t = u :: r ∧ FirstK u.kind := by
      intro hk
      obtain ⟨u, h1, _, h3, _⟩ := leaf_tok (d := d) ha hk
      refine ⟨u, [], h1, ?_⟩
      simp only [List.contains_cons, List.contains_nil, Bool.or_false, Bool.or_eq_true, beq_iff_eq] at h3
      unfold FirstK
      omega
    have hks : ∀ (tw : List Tk) (br : List Int), t.kids ≠ [] → ∃ u r, kidsTF (toksD d) [] tw br t.kids = u :: r ∧ FirstK u.kind := by
      intro tw br hne
      cases hk : t.kids with
      | nil => exact absurd hk hne
      | cons k r =>
        obtain ⟨u, q, hq, hf⟩ := kid_first (br := br) (ih k (hkids k (by rw [hk]; simp)))
        exact ⟨u, q ++ kidsTF (toksD d) tw tw br r, by simp [kidsTF, hq], hf⟩
    rcases alone_kind ha with h1 | h1 | h1 | h1 | h1 | h1 | h1
    · exact hl (by omega)
    · exact hl (by omega)
    · exact hl (by omega)
    · exact hl (by omega)
    · have h2 := (alone_56 ha (.inl h1)).1
      rw [toksD, if_neg (by omega), if_neg (by omega), if_neg (by omega), if_neg (by omega), if_neg (by omega), if_pos h1]
      exact hks _ _ (fun e => by rw [e] at h2; simp at h2)
    · have h2 := (alone_56 ha (.inr h1)).1
      rw [toksD, if_neg (by omega), if_neg (by omega), if_neg (by omega), if_neg (by omega), if_neg (by omega), if_neg (by omega), if_pos h1]
      exact hks _ _ (fun e => by rw [e] at h2; simp at h2)
    · rw [toksD, if_neg (by omega), if_neg (by omega), if_neg (by omega), if_neg (by omega), if_pos h1]
      exact ⟨_, _, rfl, .inr (.inr (.inr (.inr (.inl rfl))))⟩

/-! ### parts, rows, choices -/
def PartOk (d : Nat) (t : Tr) : Prop := ∀ (l : List Tk) (at_ : Nat) (st : List Grp) (g : Grp) (rest : List Tk), restB l at_ = kidT (toksD d) [5, 6] t ++ rest → CC l at_ (st ++ [g]) = AA l (at_ + (kidT (toksD d) [5, 6] t).length) (st ++ [addG t g])
def RowOk (d : Nat) (t : Tr) : Prop := ∀ (l : List Tk) (at_ : Nat) (st : List Grp) (g : Grp) (rest : List Tk), g.parts = [] → (g.shut = 6 ∨ g.shut = 13) → restB l at_ = kidT (toksD d) [6] t ++ rest →
  ∃ ps, CC l at_ (st ++ [g]) = AA l (at_ + (kidT (toksD d) [6] t).length) (st ++ [{ g with parts := ps }]) ∧ togetherP 5 ps = t
def ContOk (d : Nat) (t : Tr) : Prop := ∀ (l : List Tk) (at_ : Nat) (st : List Grp) (g : Grp) (rest : List Tk), g.rows = [] → g.parts = [] → (g.shut = 6 ∨ g.shut = 13) → restB l at_ = toksD d t ++ rest →
  ∃ g', CC l at_ (st ++ [g]) = AA l (at_ + (toksD d t).length) (st ++ [g']) ∧ g'.shut = g.shut ∧ g'.times = g.times ∧ togetherP 6 (endRowP g').rows = t
theorem parts_many {d : Nat} : ∀ (ks : List Tr), ks ≠ [] → (∀ k ∈ ks, PartOk d k ∧ rightD d k = true) → ∀ (l : List Tk) (at_ : Nat) (st : List Grp) (g : Grp) (rest : List Tk), (g.shut = 6 ∨ g.shut = 13) → restB l at_ = kidsTF (toksD d) [] [] [5, 6] ks ++ rest →
    CC l at_ (st ++ [g]) = AA l (at_ + (kidsTF (toksD d) [] [] [5, 6] ks).length) (st ++ [{ g with parts := g.parts ++ ks }]) := by
  intro ks
  induction ks with
  | nil => intro h; exact absurd rfl h
  | cons k r ih =>
    intro _ hall l at_ st g rest hsh hR
    cases r with
    | nil =>
      have e : kidsTF (toksD d) [] [] [5, 6] [k] = kidT (toksD d) [5, 6] k := by simp [kidsTF]
      rw [e] at hR ⊢
      exact (hall k (by simp)).1 l at_ st g rest hR
    | cons k2 r =>
      have e : kidsTF (toksD d) [] [] [5, 6] (k :: k2 :: r) = kidT (toksD d) [5, 6] k ++ kidsTF (toksD d) [] [] [5, 6] (k2 :: r) := by simp [kidsTF]
      rw [e, List.append_assoc] at hR
      have h1 := (hall k (by simp)).1 l at_ st g _ hR
      have hR2 := rest_drop hR
      obtain ⟨u, q, hq, hf⟩ := kid_first (br := [5, 6]) (toks_first d k2 (hall k2 (by simp)).2)
      have hR3 : restB l (at_ + (kidT (toksD d) [5, 6] k).length) = u :: (q ++ kidsTF (toksD d) [] [] [5, 6] r ++ rest) := by
        rw [hR2]
        simp [kidsTF, hq]
      rw [h1, A_next hR3 (by unfold FirstK at hf; omega) st (addG k g) (by show u.kind ≠ g.shut; unfold FirstK at hf; omega), ih (by simp) (fun x hx => hall x (by simp [hx])) l _ st (addG k g) rest hsh hR2, e, List.length_append, ← Nat.add_assoc]
      congr 3
      show ({ g with parts := g.parts ++ [k] ++ (k2 :: r) } : Grp) = _
      rw [List.append_assoc]
      rfl
theorem rows_many {d : Nat} : ∀ (ks : List Tr), ks ≠ [] → (∀ k ∈ ks, RowOk d k) → ∀ (l : List Tk) (at_ : Nat) (st : List Grp) (g : Grp) (rest : List Tk), g.parts = [] → (g.shut = 6 ∨ g.shut = 13) → restB l at_ = kidsTF (toksD d) [] [{ kind := 4 }] [6] ks ++ rest →
    ∃ g', CC l at_ (st ++ [g]) = AA l (at_ + (kidsTF (toksD d) [] [{ kind := 4 }] [6] ks).length) (st ++ [g']) ∧ g'.shut = g.shut ∧ g'.times = g.times ∧ (endRowP g').rows = g.rows ++ ks := by
  intro ks
  induction ks with
  | nil => intro h; exact absurd rfl h
  | cons k r ih =>
    intro _ hall l at_ st g rest hp hsh hR
    cases r with
    | nil =>
      have e : kidsTF (toksD d) [] [{ kind := 4 }] [6] [k] = kidT (toksD d) [6] k := by simp [kidsTF]
      rw [e] at hR ⊢
      obtain ⟨ps, h1, h2⟩ := hall k (by simp) l at_ st g rest hp hsh hR
      exact ⟨_, h1, rfl, rfl, by show g.rows ++ [togetherP 5 ps] = _; rw [h2]⟩
    | cons k2 r =>
      have e : kidsTF (toksD d) [] [{ kind := 4 }] [6] (k :: k2 :: r) = kidT (toksD d) [6] k ++ ([{ kind := 4 }] ++ kidsTF (toksD d) [] [{ kind := 4 }] [6] (k2 :: r)) := by simp [kidsTF]
      rw [e, List.append_assoc] at hR
      obtain ⟨ps, h1, h2⟩ := hall k (by simp) l at_ st g _ hp hsh hR
      have hR2 := rest_drop hR
      have hR3 := (rest_cons (u := { kind := 4 }) (r := kidsTF (toksD d) [] [{ kind := 4 }] [6] (k2 :: r) ++ rest) (by rw [hR2]; rfl)).2
      obtain ⟨g', h3, h4, h5, h6⟩ := ih (by simp) (fun x hx => hall x (by simp [hx])) l _ st (endRowP { g with parts := ps }) rest rfl hsh hR3
      refine ⟨g', ?_, h4, h5, ?_⟩
      · rw [h1, A_or (u := { kind := 4 }) (r := kidsTF (toksD d) [] [{ kind := 4 }] [6] (k2 :: r) ++ rest) (by rw [hR2]; rfl) rfl st { g with parts := ps } hsh, h3, e]
        congr 1
        simp only [List.length_append, List.length_cons, List.length_nil]
        omega
      · rw [h6]
        show g.rows ++ [togetherP 5 ps] ++ (k2 :: r) = _
        rw [h2, List.append_assoc]
        rfl
theorem together_some (kind : Int) (ks : List Tr) (h : 2 ≤ ks.length) : togetherP kind ks = .mk kind [] 0 0 0 0 ks := by
  unfold togetherP
  rw [if_neg (by omega)]
theorem together_one (kind : Int) (k : Tr) : togetherP kind [k] = k := rfl
theorem whole_of {g g' : Grp} {t : Tr} (hs : g'.shut = g.shut) (hg : g.shut = 6 ∨ g.shut = 13) (ht : g'.times = g.times) (hw : togetherP 6 (endRowP g').rows = t) : wholeP g' = repeatP g.times t := by
  unfold wholeP mayP
  rw [hw, ht, if_neg (by omega)]
theorem repeat_no (t : Tr) : repeatP noTree t = t := rfl
theorem repeat_times (mn mx : Int) (t : Tr) : repeatP (timesT mn mx) t = .mk 7 [] 0 0 mn mx [t] := rfl

/-- a bracketed tree -/
theorem bracket_ok {d : Nat} {t : Tr} (hc : ContOk d t) (l : List Tk) (at_ : Nat) (tm : Tr) (st : List Grp) (g : Grp) (rest : List Tk) (hR : restB l at_ = [tOpen] ++ toksD d t ++ [tShut] ++ rest) :
    DD l at_ tm (st ++ [g]) = AA l (at_ + ([tOpen] ++ toksD d t ++ [tShut]).length) (st ++ [addG (repeatP tm t) g]) := by
  have hR1 : restB l at_ = tOpen :: (toksD d t ++ ([tShut] ++ rest)) := by rw [hR]; simp
  have hR2 := (rest_cons hR1).2
  obtain ⟨g', h1, h2, h3, h4⟩ := hc l (at_ + 1) (st ++ [g]) (newG tm) _ rfl rfl (.inl rfl) hR2
  have hR3 := rest_drop hR2
  rw [D_open hR1, h1, A_shut hR3 st g g' h2, whole_of h2 (.inl rfl) h3 h4]
  congr 1
  simp only [List.length_append, List.length_cons, List.length_nil]
  omega

theorem parse_ok : ∀ (d : Nat) (t : Tr), rightD d t = true → PartOk d t ∧ RowOk d t ∧ ContOk d t := by
  intro d
  induction d with
  | zero => intro t h; cases h
  | succ d ih =>
    intro t h
    obtain ⟨e, he, ha, hkids⟩ := right_kinds h
    obtain rfl : d = e := by omega
    have hpart : ∀ k ∈ t.kids, PartOk d k ∧ rightD d k = true := fun k hk => ⟨(ih k (hkids k hk)).1, hkids k hk⟩
    have hrow : ∀ k ∈ t.kids, RowOk d k := fun k hk => (ih k (hkids k hk)).2.1
    have nokid : ∀ br : List Int, br.contains t.kind = false → kidT (toksD (d + 1)) br t = toksD (d + 1) t := fun br hb => by
      unfold kidT
      rw [hb]
      rfl
    have brkid : ∀ br : List Int, br.contains t.kind = true → kidT (toksD (d + 1)) br t = [tOpen] ++ toksD (d + 1) t ++ [tShut] := fun br hb => by
      unfold kidT
      rw [hb]
      rfl
    -- a single part: a leaf, or what is repeated
    have single : PartOk (d + 1) t → (([6] : List Int).contains t.kind = false → kidT (toksD (d + 1)) [5, 6] t = kidT (toksD (d + 1)) [6] t) → kidT (toksD (d + 1)) [5, 6] t = kidT (toksD (d + 1)) [6] t → RowOk (d + 1) t := by
      intro hp _ heq l at_ st g rest hgp _ hR
      rw [← heq] at hR ⊢
      refine ⟨[t], ?_, rfl⟩
      rw [hp l at_ st g rest hR]
      unfold addG
      rw [hgp]
      rfl
    have contOfRow : RowOk (d + 1) t → kidT (toksD (d + 1)) [6] t = toksD (d + 1) t → ContOk (d + 1) t := by
      intro hr heq l at_ st g rest hgr hgp hsh hR
      rw [← heq] at hR ⊢
      obtain ⟨ps, h1, h2⟩ := hr l at_ st g rest hgp hsh hR
      refine ⟨_, h1, rfl, rfl, ?_⟩
      show togetherP 6 (g.rows ++ [togetherP 5 ps]) = t
      rw [hgr, h2]
      rfl
    have partOfCont : ([5, 6] : List Int).contains t.kind = true → ContOk (d + 1) t → PartOk (d + 1) t := by
      intro hb hc l at_ st g rest hR
      rw [brkid _ hb] at hR ⊢
      have hR1 : restB l at_ = tOpen :: (toksD (d + 1) t ++ ([tShut] ++ rest)) := by rw [hR]; simp
      have hh := how_rest hR1
      rw [if_neg (by intro hx; exact absurd hx.1 (by decide))] at hh
      rw [CC_eq, hh, bracket_ok hc l at_ noTree st g rest hR]
      rfl
    have leafPart : (t.kind = 1 ∨ t.kind = 2 ∨ t.kind = 3 ∨ t.kind = 4) → PartOk (d + 1) t := by
      intro hk l at_ st g rest hR
      rw [nokid _ (by simp only [List.contains_cons, List.contains_nil, Bool.or_false, Bool.or_eq_false_iff, beq_eq_false_iff_ne]; omega)] at hR ⊢
      obtain ⟨u, h1, h2, h3, h4⟩ := leaf_tok (d := d) ha hk
      rw [h1] at hR ⊢
      have hR1 : restB l at_ = u :: rest := by rw [hR]; rfl
      have hu9 : u.kind ≠ 9 := by
        simp only [List.contains_cons, List.contains_nil, Bool.or_false, Bool.or_eq_true, beq_iff_eq] at h3
        omega
      have hh := how_rest hR1
      rw [if_neg (by intro hx; exact hu9 hx.1)] at hh
      rw [CC_eq, hh, D_leaf hR1 h3 h4 noTree st g, h2]
      rfl
    have finish : PartOk (d + 1) t → t.kind ≠ 5 → t.kind ≠ 6 → PartOk (d + 1) t ∧ RowOk (d + 1) t ∧ ContOk (d + 1) t := by
      intro hp h5 h6
      have e1 : kidT (toksD (d + 1)) [5, 6] t = toksD (d + 1) t := nokid _ (by simp only [List.contains_cons, List.contains_nil, Bool.or_false, Bool.or_eq_false_iff, beq_eq_false_iff_ne]; omega)
      have e2 : kidT (toksD (d + 1)) [6] t = toksD (d + 1) t := nokid _ (by simp only [List.contains_cons, List.contains_nil, Bool.or_false, beq_eq_false_iff_ne]; omega)
      have hr := single hp (fun _ => by rw [e1, e2]) (by rw [e1, e2])
      exact ⟨hp, hr, contOfRow hr e2⟩
    rcases alone_kind ha with h1 | h1 | h1 | h1 | h1 | h1 | h1
    · exact finish (leafPart (by omega)) (by omega) (by omega)
    · exact finish (leafPart (by omega)) (by omega) (by omega)
    · exact finish (leafPart (by omega)) (by omega) (by omega)
    · exact finish (leafPart (by omega)) (by omega) (by omega)
    · obtain ⟨h2, ht⟩ := alone_56 ha (.inl h1)
      have hne : t.kids ≠ [] := fun e => by rw [e] at h2; simp at h2
      have et : toksD (d + 1) t = kidsTF (toksD d) [] [] [5, 6] t.kids := by rw [toksD, if_neg (by omega), if_neg (by omega), if_neg (by omega), if_neg (by omega), if_neg (by omega), if_pos h1]
      have e2 : kidT (toksD (d + 1)) [6] t = toksD (d + 1) t := nokid _ (by rw [h1]; rfl)
      have hr : RowOk (d + 1) t := by
        intro l at_ st g rest hgp hsh hR
        rw [e2, et] at hR ⊢
        refine ⟨t.kids, ?_, ?_⟩
        · rw [parts_many t.kids hne hpart l at_ st g rest hsh hR, hgp]
          rfl
        · rw [together_some 5 _ h2]
          conv => rhs; rw [ht, h1]
      have hc := contOfRow hr e2
      exact ⟨partOfCont (by rw [h1]; rfl) hc, hr, hc⟩
    · obtain ⟨h2, ht⟩ := alone_56 ha (.inr h1)
      have hne : t.kids ≠ [] := fun e => by rw [e] at h2; simp at h2
      have et : toksD (d + 1) t = kidsTF (toksD d) [] [{ kind := 4 }] [6] t.kids := by rw [toksD, if_neg (by omega), if_neg (by omega), if_neg (by omega), if_neg (by omega), if_neg (by omega), if_neg (by omega), if_pos h1]
      have hc : ContOk (d + 1) t := by
        intro l at_ st g rest hgr hgp hsh hR
        rw [et] at hR ⊢
        obtain ⟨g', h3, h4, h5, h6⟩ := rows_many t.kids hne hrow l at_ st g rest hgp hsh hR
        refine ⟨g', h3, h4, h5, ?_⟩
        rw [h6, hgr, List.nil_append, together_some 6 _ h2]
        conv => rhs; rw [ht, h1]
      have hp := partOfCont (by rw [h1]; rfl) hc
      refine ⟨hp, single hp (fun hx => by rw [h1] at hx; cases hx) ?_, hc⟩
      rw [brkid _ (by rw [h1]; rfl), brkid _ (by rw [h1]; rfl)]
    · obtain ⟨htm, k, hk⟩ := alone_7 ha h1
      have hks : t.kids = [k] := by rw [hk]; rfl
      have hkr := hkids k (by rw [hks]; simp)
      have et : toksD (d + 1) t = [{ kind := 9, mn := t.mn, mx := t.mx }] ++ kidT (toksD d) [7, 5, 6] k := by
        rw [toksD, if_neg (by omega), if_neg (by omega), if_neg (by omega), if_neg (by omega), if_pos h1, hks]
        simp [kidsTF]
      refine finish ?_ (by omega) (by omega)
      intro l at_ st g rest hR
      rw [nokid _ (by rw [h1]; rfl), et] at hR ⊢
      have hR1 : restB l at_ = { kind := 9, mn := t.mn, mx := t.mx } :: (kidT (toksD d) [7, 5, 6] k ++ rest) := by rw [hR]; rfl
      have hR2 := (rest_cons hR1).2
      have hh := how_rest hR1
      rw [if_pos ⟨rfl, htm⟩] at hh
      have hrep : repeatP (timesT t.mn t.mx) k = t := by rw [repeat_times]; exact hk.symm
      rw [CC_eq, hh]
      simp only
      by_cases hbr : ([7, 5, 6] : List Int).contains k.kind = true
      · have ek : kidT (toksD d) [7, 5, 6] k = [tOpen] ++ toksD d k ++ [tShut] := by
          unfold kidT
          rw [hbr]
          rfl
        rw [ek] at hR2 ⊢
        rw [bracket_ok (ih k hkr).2.2 l (at_ + 1) (timesT t.mn t.mx) st g rest hR2, hrep]
        congr 1
        simp only [List.length_append, List.length_cons, List.length_nil]
        omega
      · have ek : kidT (toksD d) [7, 5, 6] k = toksD d k := by
          unfold kidT
          rw [if_neg hbr]
        obtain ⟨e2, rfl, hak, _⟩ := right_kinds hkr
        have hk4 : k.kind = 1 ∨ k.kind = 2 ∨ k.kind = 3 ∨ k.kind = 4 := by
          simp only [List.contains_cons, List.contains_nil, Bool.or_false, Bool.or_eq_true, beq_iff_eq, not_or] at hbr
          have := alone_kind hak
          omega
        obtain ⟨u, u1, u2, u3, u4⟩ := leaf_tok (d := e2) hak hk4
        rw [ek, u1] at hR2 ⊢
        have hR3 : restB l (at_ + 1) = u :: rest := by rw [hR2]; rfl
        rw [D_leaf hR3 u3 u4 (timesT t.mn t.mx) st g, u2, hrep]
        rfl
/-- the tokens of a printed rule -/
theorem rule_back {l : List Tk} {at_ : Nat} {n : List UInt8} {more : Bool} {t : Tr} {rest : List Tk} (hR : restB l at_ = { kind := 1, text := n } :: { kind := if more = true then 3 else 2 } :: (toksD 100 t ++ { kind := 13 } :: rest)) (hn : nameB (n.map smallC) = true) (ht : rightB t = true) :
    ruleP l at_ = (some { name := n.map smallC, place := placeP l at_, more := more, tree := t }, at_ + 3 + (toksD 100 t).length) := by
  have hR2 := (rest_cons hR).2
  have hR3 := (rest_cons hR2).2
  have hm : meaningP { kind := 1, text := n } = .mk 1 (n.map smallC) 0 0 0 0 [] := rfl
  have hrl : rightB (meaningP { kind := 1, text := n }) = true := by
    rw [hm]
    refine right_leaf ?_ rfl
    have e : aloneB (.mk 1 (n.map smallC) 0 0 0 0 []) = (nameB (n.map smallC) && noRangeB (.mk 1 (n.map smallC) 0 0 0 0 []) && noTimesB (.mk 1 (n.map smallC) 0 0 0 0 []) && true) := rfl
    rw [e, hn]
    rfl
  have hl := leaf_rest hR [1]
  rw [if_pos ⟨rfl, hrl⟩, hm] at hl
  have hs23 : standsP l (at_ + 1) [2, 3] = true := by
    rw [stands_rest hR2]
    cases more <;> rfl
  have hs3 : standsP l (at_ + 1) [3] = more := by
    rw [stands_rest hR2]
    cases more <;> rfl
  obtain ⟨g', h1, h2, h3, h4⟩ := (parse_ok 100 t ht).2.2 l (at_ + 2) [] firstG _ rfl rfl (.inr rfl) hR3
  have hR4 := rest_drop hR3
  have hc : choicesP l (at_ + 2) = (some t, at_ + 2 + (toksD 100 t).length + 1) := by
    show CC l (at_ + 2) ([] ++ [firstG]) = _
    rw [h1, List.nil_append, A_end hR4 rfl g' h2, whole_of h2 (.inr rfl) h3 h4]
    rfl
  unfold ruleP
  rw [hl]
  simp only
  rw [if_pos hs23, hc, hs3]
  have e : at_ + 2 + (toksD 100 t).length + 1 = at_ + 3 + (toksD 100 t).length := by omega
  rw [← e]
  rfl
end Go.Proofs.YtodenbimeojgdaaGreatDoor

/-
  What frankinglow's Grown makes of numbers, in plain terms: a right tree. No conditions.
-/
namespace Go.Proofs.YtodenbimeojgdaaGreatDoor
open Go.RowKit

def nextP (u : List Nat) (at_ below : Nat) : Nat × Nat := if u.length ≤ at_ then (0, at_) else (u.getD at_ 0 % below, at_ + 1)
def charWords : List (List UInt8) := [[97], [97, 98], [], [98, 32, 99], [65, 45, 98], [43]]
def byteWords : List (List UInt8) := [[97], [13, 10], [65], [0, 255], [128]]
def leafG (names : List (List UInt8)) (u : List Nat) (n at_ : Nat) : Tr × Nat :=
  if n = 0 then (if names.length = 0 then (.mk 2 [98] 0 0 0 0 [], at_) else (.mk 1 (names.getD (nextP u at_ names.length).1 []) 0 0 0 0 [], (nextP u at_ names.length).2))
  else if n = 1 then (.mk 2 (charWords.getD (nextP u at_ 6).1 []) 0 0 0 0 [], (nextP u at_ 6).2)
  else if n = 2 then (.mk 3 (byteWords.getD (nextP u at_ 5).1 []) 0 0 0 0 [], (nextP u at_ 5).2)
  else (.mk 4 [] ((nextP u at_ 256).1 : Nat) (((nextP u at_ 256).1 + (nextP u (nextP u at_ 256).2 (256 - (nextP u at_ 256).1)).1 : Nat) : Int) 0 0 [], (nextP u (nextP u at_ 256).2 (256 - (nextP u at_ 256).1)).2)
def kidsG (f : Nat → Tr × Nat) : Nat → Nat → List Tr × Nat
  | 0, at_ => ([], at_)
  | m + 1, at_ => ((kidsG f m at_).1 ++ [(f (kidsG f m at_).2).1], (f (kidsG f m at_).2).2)
def someG (f : Nat → Tr × Nat) (u : List Nat) (kind : Int) (at_ : Nat) : Tr × Nat :=
  (.mk kind [] 0 0 0 0 (kidsG f (2 + (nextP u at_ 2).1) (nextP u at_ 2).2).1, (kidsG f (2 + (nextP u at_ 2).1) (nextP u at_ 2).2).2)
/-- least, most, and the place behind -/
def oftenG (u : List Nat) (at_ : Nat) : Int × Int × Nat :=
  if (nextP u at_ 5).1 = 1 then (0, 1, (nextP u at_ 5).2)
  else if (nextP u at_ 5).1 = 2 then (1, -1, (nextP u at_ 5).2)
  else if (nextP u at_ 5).1 = 3 then (2, 2, (nextP u at_ 5).2)
  else if (nextP u at_ 5).1 = 4 then (((nextP u (nextP u at_ 5).2 3).1 : Nat), (((nextP u (nextP u at_ 5).2 3).1 : Nat) : Int) + ((nextP u (nextP u (nextP u at_ 5).2 3).2 3).1 : Nat), (nextP u (nextP u (nextP u at_ 5).2 3).2 3).2)
  else (0, -1, (nextP u at_ 5).2)
def timesG (f : Nat → Tr × Nat) (u : List Nat) (at_ : Nat) : Tr × Nat := (.mk 7 [] 0 0 (oftenG u at_).1 (oftenG u at_).2.1 [(f (oftenG u at_).2.2).1], (f (oftenG u at_).2.2).2)
def pickG (f : Nat → Tr × Nat) (names : List (List UInt8)) (u : List Nat) (n at_ : Nat) : Tr × Nat :=
  if n < 4 then leafG names u n at_ else if n ≤ 6 then someG f u 5 at_ else if n ≤ 8 then someG f u 6 at_ else timesG f u at_
def growT (names : List (List UInt8)) (u : List Nat) : Nat → Nat → Tr × Nat
  | 0, at_ => leafG names u (nextP u at_ 4).1 (nextP u at_ 4).2
  | r + 1, at_ => if u.length ≤ at_ then leafG names u (nextP u at_ 4).1 (nextP u at_ 4).2 else pickG (growT names u r) names u (nextP u at_ 10).1 (nextP u at_ 10).2

theorem nextP_lt (u : List Nat) (at_ below : Nat) (h : 0 < below) : (nextP u at_ below).1 < below := by
  unfold nextP
  split
  · exact h
  · exact Nat.mod_lt _ h
theorem nextP_le (u : List Nat) (at_ below : Nat) (h : at_ ≤ u.length) : (nextP u at_ below).2 ≤ u.length ∧ at_ ≤ (nextP u at_ below).2 := by
  unfold nextP
  split <;> simp only <;> omega
/-- names that may be -/
def NamesOk (names : List (List UInt8)) : Prop := names.length ≤ 100 ∧ ∀ n ∈ names, nameB n = true ∧ n.length ≤ 1000
def texts (t : Tr) : Prop := t.text.length ≤ 1000
/-- what a grown tree is -/
structure GrownOk (d : Nat) (len : Nat) (t : Tr) : Prop where
  right : rightD d t = true
  byte : byteD d t
  text : textD d t
  long : (printD d t).length ≤ len
theorem getD_mem {α : Type} (l : List α) (i : Nat) (d : α) (h : i < l.length) : l.getD i d ∈ l := by
  rw [List.getD_eq_getElem?_getD, List.getElem?_eq_getElem h]
  exact List.getElem_mem h
theorem leaf_one {d : Nat} {t : Tr} (h1 : aloneB t = true) (h2 : t.kids = []) (h3 : 0 ≤ t.lo ∧ t.lo ≤ 255) (h4 : 0 ≤ t.hi ∧ t.hi ≤ 255) (h5 : t.text.length ≤ maxLen) (h6 : (printD (d + 1) t).length ≤ 2000) : GrownOk (d + 1) 2000 t := by
  refine ⟨?_, ⟨h3, h4, fun k hk => by rw [h2] at hk; cases hk⟩, ⟨h5, fun k hk => by rw [h2] at hk; cases hk⟩, h6⟩
  show (aloneB t && t.kids.all (rightD d)) = true
  rw [h1, h2]
  rfl
theorem leafG_ok (names : List (List UInt8)) (hn : NamesOk names) (u : List Nat) (n at_ d : Nat) : GrownOk (d + 1) 2000 (leafG names u n at_).1 := by
  have hmax : (2000 : Nat) ≤ maxLen := by unfold maxLen; omega
  have hd : ∀ (k : Int) (tx : List UInt8), (printD (d + 1) (.mk k tx 0 0 0 0 [])).length ≤ 2000 → True := fun _ _ _ => trivial
  unfold leafG
  by_cases h0 : n = 0
  · rw [if_pos h0]
    by_cases hl : names.length = 0
    · rw [if_pos hl]
      show GrownOk (d + 1) 2000 (.mk 2 [98] 0 0 0 0 [])
      exact leaf_one (by decide) rfl ⟨by decide, by decide⟩ ⟨by decide, by decide⟩ (by show 1 ≤ maxLen; omega) (by show ([34] ++ [98] ++ [34] : List UInt8).length ≤ 2000; decide)
    · rw [if_neg hl]
      have hm := hn.2 _ (getD_mem names (nextP u at_ names.length).1 [] (nextP_lt _ _ _ (by omega)))
      generalize names.getD (nextP u at_ names.length).1 [] = nm at *
      refine leaf_one ?_ rfl ⟨by show (0 : Int) ≤ 0; omega, by show (0 : Int) ≤ 255; omega⟩ ⟨by show (0 : Int) ≤ 0; omega, by show (0 : Int) ≤ 255; omega⟩ (by show nm.length ≤ maxLen; omega) (by show nm.length ≤ 2000; omega)
      show (nameB nm && true && true && true) = true
      rw [hm.1]
      rfl
  rw [if_neg h0]
  by_cases h1 : n = 1
  · rw [if_pos h1]
    have hall : ∀ x ∈ charWords, GrownOk (d + 1) 2000 (.mk 2 x 0 0 0 0 []) := by
      intro x hx
      have hb : charsB x = true ∧ x.length ≤ 100 := by
        simp only [charWords, List.mem_cons, List.not_mem_nil, or_false] at hx
        rcases hx with rfl | rfl | rfl | rfl | rfl | rfl <;> exact ⟨by decide, by decide⟩
      refine leaf_one ?_ rfl ⟨by show (0 : Int) ≤ 0; omega, by show (0 : Int) ≤ 255; omega⟩ ⟨by show (0 : Int) ≤ 0; omega, by show (0 : Int) ≤ 255; omega⟩ (by show x.length ≤ maxLen; omega) (by show ([34] ++ x ++ [34]).length ≤ 2000; simp; omega)
      show (charsB x && true && true && true) = true
      rw [hb.1]
      rfl
    exact hall _ (getD_mem charWords _ [] (nextP_lt u at_ 6 (by omega)))
  rw [if_neg h1]
  by_cases h2 : n = 2
  · rw [if_pos h2]
    have hall : ∀ x ∈ byteWords, GrownOk (d + 1) 2000 (.mk 3 x 0 0 0 0 []) := by
      intro x hx
      have hb : x ≠ [] ∧ x.length ≤ 100 ∧ (hexesP [37, 120] [46] x).length ≤ 2000 := by
        simp only [byteWords, List.mem_cons, List.not_mem_nil, or_false] at hx
        rcases hx with rfl | rfl | rfl | rfl | rfl <;> exact ⟨by decide, by decide, by decide⟩
      refine leaf_one ?_ rfl ⟨by show (0 : Int) ≤ 0; omega, by show (0 : Int) ≤ 255; omega⟩ ⟨by show (0 : Int) ≤ 0; omega, by show (0 : Int) ≤ 255; omega⟩ (by show x.length ≤ maxLen; omega) hb.2.2
      show (!x.isEmpty && true && true && true) = true
      cases x with
      | nil => exact absurd rfl hb.1
      | cons a r => rfl
    exact hall _ (getD_mem byteWords _ [] (nextP_lt u at_ 5 (by omega)))
  rw [if_neg h2]
  have hlo := nextP_lt u at_ 256 (by omega)
  have hhi := nextP_lt u (nextP u at_ 256).2 (256 - (nextP u at_ 256).1) (by omega)
  generalize (nextP u at_ 256).1 = lo at *
  generalize (nextP u (nextP u at_ 256).2 (256 - lo)).1 = hi at *
  refine leaf_one ?_ rfl ⟨by show (0 : Int) ≤ (lo : Int); omega, by show (lo : Int) ≤ 255; omega⟩ ⟨by show (0 : Int) ≤ ((lo + hi : Nat) : Int); omega, by show ((lo + hi : Nat) : Int) ≤ 255; omega⟩ (Nat.zero_le _) (by show (hexesP [37, 120] [45] [byteOf (lo : Int), byteOf ((lo + hi : Nat) : Int)]).length ≤ 2000; simp [hexesP, pairP])
  show (true && decide ((lo : Int) ≤ ((lo + hi : Nat) : Int)) && true && true) = true
  simp
  omega
theorem kidsG_len (f : Nat → Tr × Nat) : ∀ (m at_ : Nat), (kidsG f m at_).1.length = m := by
  intro m
  induction m with
  | zero => intro at_; rfl
  | succ m ih => intro at_; show ((kidsG f m at_).1 ++ [_]).length = _; rw [List.length_append, ih]; rfl
theorem kidsG_all (f : Nat → Tr × Nat) (P : Tr → Prop) (hf : ∀ a, P (f a).1) : ∀ (m at_ : Nat), ∀ k ∈ (kidsG f m at_).1, P k := by
  intro m
  induction m with
  | zero => intro at_ k hk; cases hk
  | succ m ih =>
    intro at_ k hk
    change k ∈ (kidsG f m at_).1 ++ [(f (kidsG f m at_).2).1] at hk
    rcases List.mem_append.1 hk with hk | hk
    · exact ih at_ k hk
    · rw [List.mem_singleton] at hk; subst hk; exact hf _
theorem kidsF_len (g : Tr → List UInt8) (br : List Int) (bw : List UInt8) (L : Nat) (hbw : bw.length ≤ 3) : ∀ (ks : List Tr) (a : List UInt8), a.length ≤ 3 → (∀ k ∈ ks, (g k).length ≤ L) → (kidsF g a bw br ks).length ≤ ks.length * (L + 5) := by
  intro ks
  induction ks with
  | nil => intro a _ _; simp [kidsF]
  | cons k r ih =>
    intro a ha h
    have h1 := h k (by simp)
    have h2 := ih bw hbw (fun x hx => h x (by simp [hx]))
    have h3 : (kidP g br k).length ≤ L + 2 := by
      unfold kidP
      split
      · simp; omega
      · omega
    show (a ++ kidP g br k ++ kidsF g bw bw br r).length ≤ (r.length + 1) * (L + 5)
    rw [List.length_append, List.length_append, Nat.add_mul]
    omega
def lenG : Nat → Nat
  | 0 => 2000
  | r + 1 => 3 * (lenG r + 5) + 20
theorem lenG_ge (r : Nat) : 2000 ≤ lenG r := by
  induction r with
  | zero => exact Nat.le_refl _
  | succ r ih => show 2000 ≤ 3 * (lenG r + 5) + 20; omega
theorem someG_ok (f : Nat → Tr × Nat) (r : Nat) (hf : ∀ a, GrownOk (r + 1) (lenG r) (f a).1) (u : List Nat) (kind : Int) (hk : kind = 5 ∨ kind = 6) (at_ : Nat) : GrownOk (r + 2) (lenG (r + 1)) (someG f u kind at_).1 := by
  have hm := nextP_lt u at_ 2 (by omega)
  unfold someG
  generalize nextP u at_ 2 = p at *
  have hlen := kidsG_len f (2 + p.1) p.2
  have hall := kidsG_all f (fun k => GrownOk (r + 1) (lenG r) k) hf (2 + p.1) p.2
  generalize (kidsG f (2 + p.1) p.2).1 = ks at *
  have hlong : (printD (r + 2) (.mk kind [] 0 0 0 0 ks)).length ≤ lenG (r + 1) := by
    have h5 : (printD (r + 2) (.mk 5 [] 0 0 0 0 ks)) = kidsF (printD (r + 1)) [] [32] [5, 6] ks := rfl
    have h6 : (printD (r + 2) (.mk 6 [] 0 0 0 0 ks)) = kidsF (printD (r + 1)) [] [32, 47, 32] [6] ks := rfl
    have key : ∀ br bw, bw.length ≤ 3 → (kidsF (printD (r + 1)) [] bw br ks).length ≤ lenG (r + 1) := by
      intro br bw hbw
      have := kidsF_len (printD (r + 1)) br bw (lenG r) hbw ks [] (by simp) (fun k hk => (hall k hk).long)
      have h3 : ks.length * (lenG r + 5) ≤ 3 * (lenG r + 5) := Nat.mul_le_mul_right _ (by omega)
      show _ ≤ 3 * (lenG r + 5) + 20
      omega
    rcases hk with rfl | rfl
    · rw [h5]; exact key _ _ (by simp)
    · rw [h6]; exact key _ _ (by simp)
  refine ⟨?_, ⟨⟨by show (0 : Int) ≤ 0; omega, by show (0 : Int) ≤ 255; omega⟩, ⟨by show (0 : Int) ≤ 0; omega, by show (0 : Int) ≤ 255; omega⟩, fun k hk => (hall k hk).byte⟩, ⟨Nat.zero_le _, fun k hk => (hall k hk).text⟩, hlong⟩
  show (aloneB (.mk kind [] 0 0 0 0 ks) && ks.all (rightD (r + 1))) = true
  rw [Bool.and_eq_true, List.all_eq_true]
  refine ⟨?_, fun k hk => (hall k hk).right⟩
  have e : aloneB (.mk kind [] 0 0 0 0 ks) = decide (2 ≤ ks.length) := by rcases hk with rfl | rfl <;> rfl
  rw [e, hlen]
  simp
theorem often_ok (u : List Nat) (at_ : Nat) : timesB (oftenG u at_).1 (oftenG u at_).2.1 = true ∧ 0 ≤ (oftenG u at_).1 ∧ (oftenG u at_).1 ≤ 2 ∧ -1 ≤ (oftenG u at_).2.1 ∧ (oftenG u at_).2.1 ≤ 4 := by
  unfold oftenG
  split
  · simp only; decide
  · split
    · simp only; decide
    · split
      · simp only; decide
      · split
        · have h1 := nextP_lt u (nextP u at_ 5).2 3 (by omega)
          have h2 := nextP_lt u (nextP u (nextP u at_ 5).2 3).2 3 (by omega)
          generalize (nextP u (nextP u at_ 5).2 3).1 = a at *
          generalize (nextP u (nextP u (nextP u at_ 5).2 3).2 3).1 = b at *
          simp only [timesB, Bool.and_eq_true, Bool.or_eq_true, decide_eq_true_eq, beq_iff_eq]
          omega
        · simp only; decide
theorem itoa_short (n : Int) (h0 : 0 ≤ n) (h1 : n ≤ 4) : (Lib.itoa n).length ≤ 4 := by
  obtain ⟨k, rfl⟩ : ∃ k : Nat, n = k := ⟨n.toNat, by omega⟩
  have e : Lib.itoa (k : Int) = Lib.decDigits k := by unfold Lib.itoa; rw [if_neg (by omega)]; simp
  rw [e, Lib.decDigits_one (by omega)]
  simp
theorem timesG_ok (f : Nat → Tr × Nat) (r : Nat) (hf : ∀ a, GrownOk (r + 1) (lenG r) (f a).1) (u : List Nat) (at_ : Nat) : GrownOk (r + 2) (lenG (r + 1)) (timesG f u at_).1 := by
  obtain ⟨h1, h2, h3, h4, h5⟩ := often_ok u at_
  unfold timesG
  generalize oftenG u at_ = o at *
  obtain ⟨mn, mx, a⟩ := o
  simp only at h1 h2 h3 h4 h5 ⊢
  have hk := hf a
  generalize (f a).1 = k at *
  have ht : (timesTextP mn mx).length ≤ 9 := by
    unfold timesTextP
    have i1 := itoa_short mn h2 (by omega)
    split
    · omega
    · by_cases hx : 0 ≤ mx
      · have i2 := itoa_short mx hx h5
        rw [if_pos hx]
        split
        · simp; omega
        · simp; omega
      · rw [if_neg hx]
        split
        · simp; omega
        · simp
  have hlong : (printD (r + 2) (.mk 7 [] 0 0 mn mx [k])).length ≤ lenG (r + 1) := by
    have e : printD (r + 2) (.mk 7 [] 0 0 mn mx [k]) = timesTextP mn mx ++ kidsF (printD (r + 1)) [] [] [7, 5, 6] [k] := rfl
    have := kidsF_len (printD (r + 1)) [7, 5, 6] [] (lenG r) (by simp) [k] [] (by simp) (fun x hx => by rw [List.mem_singleton] at hx; subst hx; exact hk.long)
    rw [e, List.length_append]
    show _ ≤ 3 * (lenG r + 5) + 20
    simp only [List.length_cons, List.length_nil] at this
    omega
  refine ⟨?_, ⟨⟨by show (0 : Int) ≤ 0; omega, by show (0 : Int) ≤ 255; omega⟩, ⟨by show (0 : Int) ≤ 0; omega, by show (0 : Int) ≤ 255; omega⟩, fun x hx => ?_⟩, ⟨Nat.zero_le _, fun x hx => ?_⟩, hlong⟩
  · show (aloneB (.mk 7 [] 0 0 mn mx [k]) && [k].all (rightD (r + 1))) = true
    have e : aloneB (.mk 7 [] 0 0 mn mx [k]) = (timesB mn mx && true) := rfl
    rw [e, h1]
    simp [hk.right]
  · change x ∈ [k] at hx
    rw [List.mem_singleton] at hx; subst hx; exact hk.byte
  · change x ∈ [k] at hx
    rw [List.mem_singleton] at hx; subst hx; exact hk.text
theorem grow_ok (names : List (List UInt8)) (hn : NamesOk names) (u : List Nat) : ∀ (r at_ : Nat), GrownOk (r + 1) (lenG r) (growT names u r at_).1 := by
  have up : ∀ {d : Nat} {t : Tr} (r : Nat), GrownOk d 2000 t → GrownOk d (lenG r) t := fun r h => ⟨h.right, h.byte, h.text, Nat.le_trans h.long (lenG_ge r)⟩
  intro r
  induction r with
  | zero => intro at_; exact leafG_ok names hn u _ _ 0
  | succ r ih =>
    intro at_
    rw [growT]
    split
    · exact up _ (leafG_ok names hn u _ _ _)
    · unfold pickG
      split
      · exact up _ (leafG_ok names hn u _ _ _)
      · split
        · exact someG_ok _ r ih u 5 (.inl rfl) _
        · split
          · exact someG_ok _ r ih u 6 (.inr rfl) _
          · exact timesG_ok _ r ih u _

/-! ### deeper is no other -/
theorem right_deeper : ∀ (d e : Nat) (t : Tr), d ≤ e → rightD d t = true → rightD e t = true := by
  intro d
  induction d with
  | zero => intro e t _ h; cases h
  | succ d ih =>
    intro e t he h
    obtain ⟨e, rfl⟩ : ∃ g, e = g + 1 := ⟨e - 1, by omega⟩
    have e1 : rightD (d + 1) t = (aloneB t && t.kids.all (rightD d)) := rfl
    rw [e1, Bool.and_eq_true, List.all_eq_true] at h
    show (aloneB t && t.kids.all (rightD e)) = true
    rw [Bool.and_eq_true, List.all_eq_true]
    exact ⟨h.1, fun k hk => ih e k (by omega) (h.2 k hk)⟩
theorem byte_deeper : ∀ (d e : Nat) (t : Tr), d ≤ e → rightD d t = true → byteD d t → byteD e t := by
  intro d
  induction d with
  | zero => intro e t _ h; cases h
  | succ d ih =>
    intro e t he h hb
    obtain ⟨e, rfl⟩ : ∃ g, e = g + 1 := ⟨e - 1, by omega⟩
    have e1 : rightD (d + 1) t = (aloneB t && t.kids.all (rightD d)) := rfl
    rw [e1, Bool.and_eq_true, List.all_eq_true] at h
    exact ⟨hb.1, hb.2.1, fun k hk => ih e k (by omega) (h.2 k hk) (hb.2.2 k hk)⟩
theorem text_deeper : ∀ (d e : Nat) (t : Tr), d ≤ e → rightD d t = true → textD d t → textD e t := by
  intro d
  induction d with
  | zero => intro e t _ h; cases h
  | succ d ih =>
    intro e t he h hb
    obtain ⟨e, rfl⟩ : ∃ g, e = g + 1 := ⟨e - 1, by omega⟩
    have e1 : rightD (d + 1) t = (aloneB t && t.kids.all (rightD d)) := rfl
    rw [e1, Bool.and_eq_true, List.all_eq_true] at h
    exact ⟨hb.1, fun k hk => ih e k (by omega) (h.2 k hk) (hb.2 k hk)⟩
theorem kidsF_congr (f g : Tr → List UInt8) (br : List Int) (bw : List UInt8) : ∀ (ks : List Tr) (a : List UInt8), (∀ k ∈ ks, f k = g k) → kidsF f a bw br ks = kidsF g a bw br ks := by
  intro ks
  induction ks with
  | nil => intro a _; rfl
  | cons k r ih =>
    intro a h
    show a ++ kidP f br k ++ kidsF f bw bw br r = a ++ kidP g br k ++ kidsF g bw bw br r
    rw [ih bw (fun x hx => h x (by simp [hx]))]
    unfold kidP
    rw [h k (by simp)]
theorem print_deeper : ∀ (d e : Nat) (t : Tr), d ≤ e → rightD d t = true → printD e t = printD d t := by
  intro d
  induction d with
  | zero => intro e t _ h; cases h
  | succ d ih =>
    intro e t he h
    obtain ⟨e, rfl⟩ : ∃ g, e = g + 1 := ⟨e - 1, by omega⟩
    have e1 : rightD (d + 1) t = (aloneB t && t.kids.all (rightD d)) := rfl
    rw [e1, Bool.and_eq_true, List.all_eq_true] at h
    have hk : ∀ k ∈ t.kids, printD e k = printD d k := fun k hk => ih e k (by omega) (h.2 k hk)
    rw [printD, printD]
    unfold kidsP
    rw [kidsF_congr _ _ _ _ _ _ hk, kidsF_congr _ _ _ _ _ _ hk, kidsF_congr _ _ _ _ _ _ hk]
/-- a grown tree, at the depth that is asked -/
theorem grown_whole (names : List (List UInt8)) (hn : NamesOk names) (u : List Nat) : rightB (growT names u 6 0).1 = true ∧ byteD 100 (growT names u 6 0).1 ∧ textD 100 (growT names u 6 0).1 ∧ (printD 100 (growT names u 6 0).1).length ≤ 2000000 := by
  have h := grow_ok names hn u 6 0
  refine ⟨right_deeper 7 100 _ (by omega) h.right, byte_deeper 7 100 _ (by omega) h.right h.byte, text_deeper 7 100 _ (by omega) h.right h.text, ?_⟩
  rw [print_deeper 7 100 _ (by omega) h.right]
  exact Nat.le_trans h.long (by decide)
end Go.Proofs.YtodenbimeojgdaaGreatDoor
