/-
  Merged texts (RdV, Trees, RRow, RuS, Of, BrP, GrL, LvP, Prints, WakeP, WakeM, Wake, LeavesC, OpT), each under a head of its own that says what it proves and under which conditions.
-/
import Derived.Test.YtodenbimeojgdaaGreatDoorM06
import Derived.Lib.Repeat
import Derived.Test.YtodenbimeojgdaaGreatDoorM03
import Derived.Lib.Case
import Derived.Test.YtodenbimeojgdaaGreatDoorRows
import Derived.OpenShut
/-
  The contract of abnf.Parse: what tokens are as rules is what parseP tells. Conditions: the tokens and the table of leaves lie in memory; at most 200000 tokens, of texts of at most 65536 bytes.
-/
namespace Go.Proofs.YtodenbimeojgdaaGreatDoor
open Go.RowKit

/-- blocks that are neither the rules' own nor the reader's -/
def RFree (v : Value) (r : Nat) (b : Nat) : Prop := b ∉ v.ownBlock.toList ∧ b ≠ r
/-- within Parse -/
structure ParseIn (w : World) (A : Option Addr) (n c : Nat) (toks : List Tk) (at_ : Nat) (v : Value) (ps : Rrow) (wr : World) : Prop where
  rd : ∃ vo, Rd wr w.heap.size A n c toks at_ vo
  lv : LeavesAt wr
  bel : Below w.heap.size w wr
  own : wr.ownsRow (w.heap.size + 1) 27 10 v ps.length (flatR ps)
  kids : RKids wr (RFree v w.heap.size) ps
theorem ParseIn.out {w wr : World} {A : Option Addr} {n c : Nat} {toks : List Tk} {at_ : Nat} {v : Value} {ps : Rrow} (h : ParseIn w A n c toks at_ v ps wr) : RulesAt wr w.heap.size v (ps.map Prod.fst) := by
  refine ⟨⟨ps, rfl, ownsRow_mono h.own (by omega), fun p hp => ⟨((h.kids p hp).1).mono (fun b hl _ => hl), (h.kids p hp).2⟩⟩⟩
theorem ParseIn.next {w wr w1 : World} {A : Option Addr} {n c : Nat} {toks : List Tk} {at_ at2 : Nat} {v : Value} {ps : Rrow} (h : ParseIn w A n c toks at_ v ps wr) (ho : Only w.heap.size wr w1) (hrd : ∃ vo, Rd w1 w.heap.size A n c toks at2 vo) (hg : 3 < w.heap.size) : ParseIn w A n c toks at2 v ps w1 := by
  refine ⟨hrd, h.lv.only ho hg, ⟨ho.os.trans h.bel.os, ho.tape.trans h.bel.tape, ho.output.trans h.bel.output, Nat.le_trans h.bel.size ho.size, fun k hk => (ho.block k (by have := h.bel.size; omega) (fun e => by have := Option.some.inj e; omega)).trans (h.bel.block k hk)⟩, ?_, fun p hp => ⟨(h.kids p hp).1.later ho.size (fun b hl hF => ⟨hF, ho.block b hl (fun e => hF.2 (Option.some.inj e))⟩), (h.kids p hp).2⟩⟩
  exact ownsRow_same h.own (fun b hb => ho.block b (h.own.lt b hb).2 (fun e => by have := (h.own.lt b hb).1; have := Option.some.inj e; omega))
theorem ParseIn.later {w wr w1 : World} {A : Option Addr} {n c : Nat} {toks : List Tk} {at_ : Nat} {v : Value} {ps : Rrow} (h : ParseIn w A n c toks at_ v ps wr) (hb : Below wr.heap.size wr w1) (hg : 3 < w.heap.size) : ParseIn w A n c toks at_ v ps w1 := by
  obtain ⟨vo, hrd⟩ := h.rd
  exact h.next (Only.of_below hb) ⟨vo, hrd.later hb⟩ hg
/-- one rule more -/
theorem ParseIn.more {w wr w1 w2 : World} {A : Option Addr} {n c : Nat} {toks : List Tk} {at_ gg cap : Nat} {v : Value} {ps : Rrow} {x : Rl} {sl : Value} (h : ParseIn w A n c toks at_ v ps wr) (hb : Below wr.heap.size wr w1) (hgrow : w1.grownBy w2 v.ownBlock) (hown : w2.ownsRow (w.heap.size + 1) 27 10 (.slice (some ⟨gg, 0, none⟩) (ps.length + 1) cap) (ps.length + 1) (flatR ps ++ ruleCells x sl)) (hat : v.ownBlock = some gg ∨ wr.heap.size ≤ gg)
    (hk : KidsAt wr (RFree v w.heap.size) x.tree.kids sl) (ht : x.tree.text.length ≤ maxLen) (hg : 3 < w.heap.size) : ParseIn w A n c toks at_ (.slice (some ⟨gg, 0, none⟩) (ps.length + 1) cap) (ps ++ [(x, sl)]) w2 := by
  have hgb := (hown.lt gg rfl).1
  have hsame : ∀ b, b < wr.heap.size → some b ≠ v.ownBlock → w2.heap[b]? = wr.heap[b]? := fun b hl hne => (hgrow.block b (Nat.lt_of_lt_of_le hl hb.size) hne).trans (hb.block b hl)
  have hsz : wr.heap.size ≤ w2.heap.size := Nat.le_trans hb.size hgrow.size
  have hfree : ∀ b, b < wr.heap.size → RFree v w.heap.size b → RFree (.slice (some ⟨gg, 0, none⟩) (ps.length + 1) cap) w.heap.size b ∧ w2.heap[b]? = wr.heap[b]? := by
    intro b hl hF
    have hne : some b ≠ v.ownBlock := fun e => hF.1 (by rw [← e]; simp)
    refine ⟨⟨fun hin => ?_, hF.2⟩, hsame b hl hne⟩
    have : b = gg := by simpa [Value.ownBlock] using hin
    rcases hat with hat | hat
    · exact hne (by rw [hat, this])
    · omega
  have hvb : ∀ b, v.ownBlock = some b → w.heap.size + 1 ≤ b := fun b hb2 => (h.own.lt b hb2).1
  have hbel2 : Below (w.heap.size + 1) wr w2 := by
    refine ⟨hgrow.os.trans hb.os, hgrow.tape.trans hb.tape, hgrow.output.trans hb.output, hsz, fun k hk => ?_⟩
    obtain ⟨vo, hrd⟩ := h.rd
    have := hrd.blk.lt
    exact hsame k (by omega) (fun e => by have := hvb k e.symm; omega)
  refine ⟨?_, h.lv.below hbel2 (by omega), h.bel.trans (hbel2.mono (by omega)), ?_, ?_⟩
  · obtain ⟨vo, hrd⟩ := h.rd
    exact ⟨vo, hrd.under hbel2 (by omega)⟩
  · rw [flatR_snoc, List.length_append]
    exact hown
  · intro p hp
    rcases List.mem_append.1 hp with hp | hp
    · exact ⟨(h.kids p hp).1.later hsz hfree, (h.kids p hp).2⟩
    · have : p = (x, sl) := by simpa using hp
      subst this
      exact ⟨hk.later hsz hfree, ht⟩

set_option maxRecDepth 100000 in
set_option maxHeartbeats 1600000 in
theorem Parse_any (w : World) (A : Option Addr) (n c : Nat) (toks : List Tk) (hrow : TokRow w (.slice A n c) toks) (hlen : toks.length = n) (hfar : ∀ a, A = some a → a.block < w.heap.size) (hmost : n ≤ 200000) (hlv : LeavesAt w) (hsh : Short toks) :
    Calls Tryz.prog 10 #[.slice A n c] w fun e w' => ParseOut w (parseP toks) e w' := by
  obtain ⟨i0, hi0, hz0, hz1, hz2⟩ := info_parts Tryz.infoRule
  have HR0 : Hid (parseP toks = parseF toks (toks.length + 1) 0 []) := show _ = _ from rfl
  generalize parseP toks = R at *
  have hg := hlv.lt
  have hb0 : Below w.heap.size w (w.alloc (.cells #[.slice A n c, .int .i64 0, .slice none 0 0] 70)) := (Below.refl _ _).alloc (Nat.le_refl _) _
  have HP0 : Hid (ParseIn w A n c toks 0 (.slice none 0 0) [] (w.alloc (.cells #[.slice A n c, .int .i64 0, .slice none 0 0] 70))) :=
    ⟨⟨_, ⟨Blk.new _ _ _, hrow.below hb0, hlen, hfar, Nat.zero_le _, hmost⟩⟩, hlv.below hb0 hg, hb0, World.ownsRow_nil _ _ _ _, fun p hp => (by cases hp)⟩
  have HLEN := Lib.hid hlen
  have HSH := Lib.hid hsh
  clear hrow hfar hlv hsh hb0 hlen
  go_enter Tryz.func10, Tryz.ntmps10
  go_wp2_with fail
  generalize w.alloc (.cells #[.slice A n c, .int .i64 0, .slice none 0 0] 70) = W0 at *
  go_loopw [5] (fun vs wr => ∃ (at2 f : Nat) (ps : Rrow) (v : Value), v = vs ∧ Hid (ParseIn w A n c toks at2 v ps wr) ∧ n < f + at2 ∧ at2 ≤ n ∧ ps.length ≤ at2 ∧ Hid (R = parseF toks f at2 (ps.map Prod.fst))) (fun _ wr => n - atOf w.heap.size wr)
  case atStart => exact ⟨0, toks.length + 1, [], _, rfl, HP0, by rw [HLEN.out]; omega, Nat.zero_le _, Nat.le_refl _, HR0⟩
  case round =>
    clear HP0 HR0
    obtain ⟨at2, f, ps, v, rfl, HP, hf, hle, hps, HR⟩ := hrel
    obtain ⟨vo, hrd⟩ := HP.out.rd
    have c1 : wr.cell? ⟨w.heap.size, 1, none⟩ = some (.int .i64 at2) := hrd.blk.cell 1
    by_cases hlt : at2 < n
    · obtain ⟨f, rfl⟩ : ∃ f', f = f' + 1 := ⟨f - 1, by omega⟩
      have hlt' : (at2 : Int) < n := by omega
      have HRU := Lib.hid (rule_any wr w.heap.size v.ownBlock.toList A n c toks at2 vo hrd HP.out.lv hg (fun hin => by
        have := (HP.out.own.lt w.heap.size (by simpa using hin)).1
        omega) (fun b hin => (HP.out.own.lt b (by simpa using hin)).2) HSH.out hlt)
      have HN := Lib.hid (fun at3 (h : ruleP toks at2 = (none, at3)) => parseF_none (f := f) (acc := ps.map Prod.fst) (show at2 < toks.length from by rw [HLEN.out]; exact hlt) h)
      have HS := Lib.hid (fun at3 x (h : ruleP toks at2 = (some x, at3)) => parseF_some (f := f) (acc := ps.map Prod.fst) (show at2 < toks.length from by rw [HLEN.out]; exact hlt) h)
      have HAD := Lib.hid (fun at3 x (h : ruleP toks at2 = (some x, at3)) => ruleP_adv h)
      clear hrd
      generalize ruleP toks at2 = RP at *
      obtain ⟨o, at3⟩ := RP
      go_wp2_with fail
      refine HRU.out.mono ?_
      rintro e w1 ⟨hrd1, ho1, hval⟩
      have HP1 := Lib.hid (HP.out.next ho1 hrd1 hg)
      clear HRU c1
      cases o with
      | none =>
        have HR2 : Hid (R = ([], placeP toks at3, 20)) := by
          show R = _
          rw [HR.out, HN.out at3 rfl]
        have hval' : e = .returned (.tuple #[.agg #[.string ⟨#[]⟩, .int .i64 0, .bool false, .int .u8 0, .string ⟨#[]⟩, .int .u8 0, .int .u8 0, .int .i64 0, .int .i64 0, .slice none 0 0], .bool false]) := hval
        subst hval'
        have hP2 := HP1.out.later ((Below.refl _ _).alloc (Nat.le_refl _) (.cells #[.string ⟨#[]⟩, .int .i64 0, .bool false, .int .u8 0, .string ⟨#[]⟩, .int .u8 0, .int .u8 0, .int .i64 0, .int .i64 0, .slice none 0 0] 27)) hg
        obtain ⟨vo2, hrd2⟩ := hP2.rd
        have HPL := Lib.hid (place_any _ w.heap.size A n c toks at3 vo2 hrd2 (by omega))
        have HP2 := Lib.hid hP2
        clear hval hP2 hrd2 HN HS HAD HR
        go_wp2_with fail
        refine HPL.out.mono ?_
        rintro e w3 ⟨rfl, hb3⟩
        have HP3 := Lib.hid (HP2.out.later hb3 hg)
        clear hb3 HPL
        go_wp2
        go_ret3
        refine ⟨.slice none 0 0, by simp [HR2.out], ?_, HP3.out.bel⟩
        rw [HR2.out]
        exact ⟨⟨[], rfl, World.ownsRow_nil _ _ _ _, fun p hp => (by cases hp)⟩⟩
      | some x =>
        have hS := HS.out at3 x rfl
        have hadv := HAD.out at3 x rfl
        obtain ⟨sl, he, hk, ht⟩ := hval
        obtain ⟨sp, sc, rfl, _⟩ := hk.form
        generalize x.tree.kids.length = sn at *
        have he' : e = .returned (.tuple #[.agg #[.string (bs x.name), .int .i64 x.place, .bool x.more, .int .u8 x.tree.kind, .string (bs x.tree.text), .int .u8 x.tree.lo, .int .u8 x.tree.hi, .int .i64 x.tree.mn, .int .i64 x.tree.mx, .slice sp sn sc], .bool true]) := he
        subst he'
        have hb2 : Below w1.heap.size w1 (w1.alloc (.cells #[.string (bs x.name), .int .i64 x.place, .bool x.more, .int .u8 x.tree.kind, .string (bs x.tree.text), .int .u8 x.tree.lo, .int .u8 x.tree.hi, .int .i64 x.tree.mn, .int .i64 x.tree.mx, .slice sp sn sc] 27)) := (Below.refl _ _).alloc (Nat.le_refl _) _
        have hB2 : Blk (w1.alloc (.cells #[.string (bs x.name), .int .i64 x.place, .bool x.more, .int .u8 x.tree.kind, .string (bs x.tree.text), .int .u8 x.tree.lo, .int .u8 x.tree.hi, .int .i64 x.tree.mn, .int .i64 x.tree.mx, .slice sp sn sc] 27)) w1.heap.size 27 #[.string (bs x.name), .int .i64 x.place, .bool x.more, .int .u8 x.tree.kind, .string (bs x.tree.text), .int .u8 x.tree.lo, .int .u8 x.tree.hi, .int .i64 x.tree.mn, .int .i64 x.tree.mx, .slice sp sn sc] := Blk.new _ _ _
        have HRT := Lib.hid (abRight_any x.tree (.slice sp sn sc) (w1.alloc (.cells #[.string (bs x.name), .int .i64 x.place, .bool x.more, .int .u8 x.tree.kind, .string (bs x.tree.text), .int .u8 x.tree.lo, .int .u8 x.tree.hi, .int .i64 x.tree.mn, .int .i64 x.tree.mx, .slice sp sn sc] 27)) ((hk.same hb2).mono (fun b hl _ => hl)) ht)
        have HRR : Hid (R = if rightB x.tree = true then parseF toks f at3 (ps.map Prod.fst ++ [x]) else ([], x.place, 21)) := by
          show R = _
          rw [HR.out, hS]
        have HP2 := Lib.hid (HP1.out.later hb2 hg)
        have hk' : KidsAt w1 (RFree v w.heap.size) x.tree.kids (.slice sp sn sc) := hk
        have HK := Lib.hid hk'
        have HB2 := Lib.hid hB2
        have Hb2 := Lib.hid hb2
        unfold treeV at HRT
        clear he hk hk' hS HS HN HAD HR hb2 hB2
        go_wp2_with fail
        refine HRT.out.mono ?_
        rintro e w3 ⟨rfl, hb3⟩
        have HP3 := Lib.hid (HP2.out.later hb3 hg)
        have hB3 := HB2.out.below hb3 HB2.out.lt
        have hc3 := hB3.cell
        have hB3lt := hB3.lt
        have HK3 := Lib.hid (HK.out.same (Hb2.out.trans (hb3.mono Hb2.out.size)))
        have Hb13 := Lib.hid (Hb2.out.trans (hb3.mono Hb2.out.size))
        clear hB3 HRT HB2
        cases hr : rightB x.tree with
        | false =>
          have hRR := HRR.out
          rw [hr] at hRR
          have HR2 : Hid (R = ([], x.place, 21)) := hRR
          clear hRR HRR hr hb3
          go_wp2
          go_quiet (fail)
          go_wp2
          go_ret3
          refine ⟨.slice none 0 0, by simp [HR2.out], ?_, below_drewN HP3.out.bel _⟩
          rw [HR2.out]
          exact ⟨⟨[], rfl, World.ownsRow_nil _ _ _ _, fun p hp => (by cases hp)⟩⟩
        | true =>
          have hRR := HRR.out
          rw [hr] at hRR
          have HR2 : Hid (R = parseF toks f at3 ((ps ++ [(x, Value.slice sp sn sc)]).map Prod.fst)) := by
            show R = _
            rw [List.map_append]
            exact hRR
          have hsz3 : w.heap.size + 1 ≤ w3.heap.size := by
            obtain ⟨v3, hrd3⟩ := HP3.out.rd
            exact hrd3.blk.lt
          have hle3 : at3 ≤ n := by
            obtain ⟨v3, hrd3⟩ := HP3.out.rd
            exact hrd3.le
          clear hRR HRR hr hb3
          go_wp2_with (at_builtin; refine wpList_append_lies _ rfl _ _ 35 rfl (w.heap.size + 1) 27 i0 _ 10 104 Tryz.underlying35 hi0 hz0 hz1 hz2 rfl (by decide) v ps.length (flatR ps) (by rfl) (HP3.out.own.alloc _) ⟨w3.heap.size, 0, none⟩ 1 1 (ruleCells x (.slice sp sn sc)) (by rfl) (by rfl) (World.news_of_block (cs := (ruleCells x (.slice sp sn sc)).toArray) (t := 27) (fr := (0, 0)) (heap_alloc_new w3 _)) ?c1 (by omega) ?c2 ?c3 ?c4 (w3.heap.size + 1) (by simp) ?_)
          case c1 => simp [ruleCells, Value.oneCell']
          case c2 => unfold maxLen; omega
          case c3 => omega
          case c4 => simp; omega
          intro gg cap w4 hown hgrow hat _
          have hP4 := HP3.out.more ((Below.refl _ _).alloc (Nat.le_refl _) _) hgrow hown (hat.imp id (fun e => by omega)) HK3.out ht hg
          have HP4 := Lib.hid hP4
          have HM : Hid (∀ y, atOf w.heap.size y = at2 → n - atOf w.heap.size w4 < n - atOf w.heap.size y) := by
            intro y hy
            obtain ⟨v4, hrd4⟩ := hP4.rd
            have e4 : atOf w.heap.size w4 = at3 := by
              have : w4.cell? ⟨w.heap.size, 1, none⟩ = some (.int .i64 at3) := hrd4.blk.cell 1
              unfold atOf
              rw [this]
              simp [intOf]
            rw [e4, hy]
            omega
          have HA : Hid (atOf w.heap.size wr = at2) := by
            obtain ⟨v4, hrd4⟩ := HP.out.rd
            have : wr.cell? ⟨w.heap.size, 1, none⟩ = some (.int .i64 at2) := hrd4.blk.cell 1
            show atOf _ _ = _
            unfold atOf
            rw [this]
            simp [intOf]
          have hln : (ps ++ [(x, Value.slice sp sn sc)]).length ≤ at3 := by simp; omega
          clear hown hgrow hat hP4 HP3 HP2 HP1 HP HK HK3 hc3
          go_wp2
          go_roundw
          case rel => exact ⟨at3, f, _, _, rfl, HP4, by omega, hle3, hln, HR2⟩
          case measure => exact HM.out _ HA.out
    · have HR2 : Hid (R = (ps.map Prod.fst, 0, 0)) := by
        show R = _
        rw [HR.out, parseF_end (by rw [HLEN.out]; omega)]
      clear HR
      go_wp2
      go_ret3
      refine ⟨v, by simp [HR2.out], ?_, HP.out.bel⟩
      rw [HR2.out]
      exact HP.out.out
end Go.Proofs.YtodenbimeojgdaaGreatDoor

/-
  The contract of frankinglow's Trees where the two trees are the same: it answers true. Conditions: both lie in memory.
-/
namespace Go.Proofs.YtodenbimeojgdaaGreatDoor
open Go.RowKit

set_option maxRecDepth 100000 in
set_option maxHeartbeats 1600000 in
theorem Trees_aux {w : World} {S : Nat → Prop} {ks : List Tr} {sl : Value} (h : KidsAt w S ks sl) : ∀ (t : Tr), t.kids = ks → ∀ (sl2 : Value) (w' : World), Below w.heap.size w w' → KidsAt w (· < w.heap.size) ks sl2 →
    Calls Tryz.prog 32 #[treeV t sl, treeV t sl2] w' fun e w2 => e = .returned (.bool true) ∧ Below w'.heap.size w' w2 := by
  induction h with
  | nil p cap =>
    intro t ht sl2 w' hw hk2
    obtain ⟨p2, c2, rfl, _⟩ := hk2.form
    unfold treeV
    go_enter Tryz.func32, Tryz.ntmps32
    go_wp2
    go_loopw [58] (fun i wr => i = .int .i64 0 ∧ Below w'.heap.size w' wr) (fun _ _ => 0)
    case atStart => exact ⟨rfl, ((Below.refl _ _).alloc (Nat.le_refl _) _).alloc (by simp) _⟩
    case round =>
      obtain ⟨rfl, hbel⟩ := hrel
      go_wp2
      go_ret
      exact ⟨rfl, hbel⟩
  | row kids b off cap sls hS hlt hn hcap hm htx hc hk ih =>
    intro t ht sl2 w' hw hk2
    obtain ⟨p2, c2, rfl, _⟩ := hk2.form
    have HIH : Hid (∀ i x, kids[i]? = some x → ∀ (sl2 : Value) (w' : World), Below w.heap.size w w' → KidsAt w (· < w.heap.size) x.kids sl2 → Calls Tryz.prog 32 #[treeV x (sls i), treeV x sl2] w' fun e w2 => e = .returned (.bool true) ∧ Below w'.heap.size w' w2) := by
      intro i x hx
      obtain ⟨hi, he⟩ := List.getElem?_eq_some_iff.1 hx
      subst he
      exact ih i hi _ rfl
    have HC : Hid (∀ i x, kids[i]? = some x → (w.cell? ⟨b, off + i * 7, none⟩ = some (.int .u8 x.kind) ∧ w.cell? ⟨b, off + i * 7 + 1, none⟩ = some (.string (bs x.text)) ∧ w.cell? ⟨b, off + i * 7 + 2, none⟩ = some (.int .u8 x.lo) ∧ w.cell? ⟨b, off + i * 7 + 3, none⟩ = some (.int .u8 x.hi) ∧ w.cell? ⟨b, off + i * 7 + 4, none⟩ = some (.int .i64 x.mn) ∧ w.cell? ⟨b, off + i * 7 + 5, none⟩ = some (.int .i64 x.mx) ∧ w.cell? ⟨b, off + i * 7 + 6, none⟩ = some (sls i)) ∧ ∃ p c, sls i = .slice p x.kids.length c) := by
      intro i x hx
      obtain ⟨hi, he⟩ := List.getElem?_eq_some_iff.1 hx
      subst he
      have key := hc i hi
      obtain ⟨p, c, hp, _⟩ := (hk i hi).form
      exact ⟨⟨key 0 _ rfl, key 1 _ rfl, key 2 _ rfl, key 3 _ rfl, key 4 _ rfl, key 5 _ rfl, key 6 _ rfl⟩, p, c, hp⟩
    have HK2 := Lib.hid hk2
    have hm' := hm
    unfold maxLen at hm'
    clear ih hc hk hk2 htx hS ht hm hcap
    have HW := Lib.hid hw
    have hwz := hw.size
    clear hw
    generalize hlen : kids.length = n at *
    have HL := Lib.hid hlen
    clear hlen
    have hB0 : Below w'.heap.size w' ((w'.alloc (.cells #[.int .u8 t.kind, .string (bs t.text), .int .u8 t.lo, .int .u8 t.hi, .int .i64 t.mn, .int .i64 t.mx, .slice (some ⟨b, off, none⟩) n cap] 25)).alloc (.cells #[.int .u8 t.kind, .string (bs t.text), .int .u8 t.lo, .int .u8 t.hi, .int .i64 t.mn, .int .i64 t.mx, .slice p2 n c2] 25)) := ((Below.refl _ _).alloc (Nat.le_refl _) _).alloc (by simp) _
    have hBa : Blk ((w'.alloc (.cells #[.int .u8 t.kind, .string (bs t.text), .int .u8 t.lo, .int .u8 t.hi, .int .i64 t.mn, .int .i64 t.mx, .slice (some ⟨b, off, none⟩) n cap] 25)).alloc (.cells #[.int .u8 t.kind, .string (bs t.text), .int .u8 t.lo, .int .u8 t.hi, .int .i64 t.mn, .int .i64 t.mx, .slice p2 n c2] 25)) w'.heap.size 25 #[.int .u8 t.kind, .string (bs t.text), .int .u8 t.lo, .int .u8 t.hi, .int .i64 t.mn, .int .i64 t.mx, .slice (some ⟨b, off, none⟩) n cap] := (Blk.new _ _ _).alloc _
    have hBb : Blk ((w'.alloc (.cells #[.int .u8 t.kind, .string (bs t.text), .int .u8 t.lo, .int .u8 t.hi, .int .i64 t.mn, .int .i64 t.mx, .slice (some ⟨b, off, none⟩) n cap] 25)).alloc (.cells #[.int .u8 t.kind, .string (bs t.text), .int .u8 t.lo, .int .u8 t.hi, .int .i64 t.mn, .int .i64 t.mx, .slice p2 n c2] 25)) (w'.heap.size + 1) 25 #[.int .u8 t.kind, .string (bs t.text), .int .u8 t.lo, .int .u8 t.hi, .int .i64 t.mn, .int .i64 t.mx, .slice p2 n c2] := Blk.new_at _ _ _ _ (by simp)
    have HB0 := Lib.hid hB0
    have HBa := Lib.hid hBa
    have HBb := Lib.hid hBb
    clear hB0 hBa hBb
    unfold treeV
    go_enter Tryz.func32, Tryz.ntmps32
    go_wp2
    generalize (w'.alloc (.cells #[.int .u8 t.kind, .string (bs t.text), .int .u8 t.lo, .int .u8 t.hi, .int .i64 t.mn, .int .i64 t.mx, .slice (some ⟨b, off, none⟩) n cap] 25)).alloc (.cells #[.int .u8 t.kind, .string (bs t.text), .int .u8 t.lo, .int .u8 t.hi, .int .i64 t.mn, .int .i64 t.mx, .slice p2 n c2] 25) = W0 at *
    go_loopw [5, 58] (fun _ i wr => ∃ k : Nat, k ≤ n ∧ i = .int .i64 k ∧ Below W0.heap.size W0 wr) (fun _ i _ => n - (intOf i).toNat)
    case atStart => exact ⟨0, Nat.zero_le _, rfl, Below.refl _ _⟩
    case round =>
      obtain ⟨k, hk, rfl, hbel⟩ := hrel
      have hBW : Below w'.heap.size w' wr := HB0.out.trans (hbel.mono HB0.out.size)
      have hWW : Below w.heap.size w wr := HW.out.trans (hBW.mono hwz)
      by_cases hlt2 : k < n
      · obtain ⟨x, hx⟩ : ∃ x, kids[k]? = some x := ⟨_, List.getElem?_eq_getElem (by rw [HL.out]; exact hlt2)⟩
        obtain ⟨⟨a0, a1, a2, a3, a4, a5, a6⟩, q1, d1, hsl⟩ := HC.out k x hx
        obtain ⟨g, o2, ksl, rfl, hg, _, e0, e1, e2, e3, e4, e5, e6, hkk, _⟩ := HK2.out.at_ hx
        have HREC := Lib.hid (fun (W' : World) (hW' : Below w.heap.size w W') => HIH.out k x hx ksl W' hW' hkk)
        obtain ⟨q2, d2, rfl, _⟩ := hkk.form
        rw [hsl] at HREC a6
        have hcw : ∀ b o, b < w.heap.size → wr.cell? ⟨b, o, none⟩ = w.cell? ⟨b, o, none⟩ := fun b o hb => hWW.cell (p := ⟨b, o, none⟩) hb
        have hca := (HBa.out.below hbel HBa.out.lt).cell
        have hcb := (HBb.out.below hbel HBb.out.lt).cell
        have hlt' : (k : Int) < n := by omega
        have h0' : (0 : Int) ≤ k := by omega
        have HBEL := Lib.hid hbel
        have HWW := Lib.hid hWW
        have HBW := Lib.hid hBW
        unfold treeV at HREC
        clear hx hkk hsl hbel hWW hBW
        generalize x.kids.length = xl at *
        go_wp2
        go_still_tail 10, (by kernel_rfl)
        go_wp2_with fail
        refine (HREC.out _ HWW.out.drew).mono ?_
        rintro e w5 ⟨rfl, hb5⟩
        have hbel5 : Below W0.heap.size W0 w5 := HBEL.out.drew.trans (hb5.mono HBEL.out.size)
        clear hca hcb hcw
        go_wp2
        go_roundw
        case rel => exact ⟨k + 1, by omega, by go_num, hbel5⟩
        case measure => simp [intOf]; omega
      · go_wp2
        go_ret
        exact ⟨rfl, hBW⟩
theorem Trees_same (t : Tr) (sl sl2 : Value) (w : World) (h : KidsAt w (· < w.heap.size) t.kids sl) (h2 : KidsAt w (· < w.heap.size) t.kids sl2) :
    Calls Tryz.prog 32 #[treeV t sl, treeV t sl2] w fun e w2 => e = .returned (.bool true) ∧ Below w.heap.size w w2 := Trees_aux h t rfl sl2 w (Below.refl _ _) h2
end Go.Proofs.YtodenbimeojgdaaGreatDoor

/-
  Rules in a row in memory, cell by cell. No conditions.
-/
namespace Go.Proofs.YtodenbimeojgdaaGreatDoor
open Go.RowKit

theorem flatR_at : ∀ (ps : Rrow) (k : Nat) (p : Rl × Value), ps[k]? = some p → ∀ j, j < 10 → (flatR ps)[k * 10 + j]? = (ruleCells p.1 p.2)[j]? := by
  intro ps
  induction ps with
  | nil => intro k p h; simp at h
  | cons a r ih =>
    intro k p h j hj
    have e : flatR (a :: r) = ruleCells a.1 a.2 ++ flatR r := by simp [flatR]
    have hl : (ruleCells a.1 a.2).length = 10 := rfl
    rw [e]
    cases k with
    | zero =>
      have : a = p := by simpa using h
      subst this
      rw [Nat.zero_mul, Nat.zero_add, List.getElem?_append_left (by rw [hl]; exact hj)]
    | succ k =>
      rw [List.getElem?_append_right (by rw [hl]; omega), hl, show (k + 1) * 10 + j - 10 = k * 10 + j from by omega]
      exact ih k p (by simpa using h) j hj
/-- a slice value whose cells are these rules -/
structure RRow (w : World) (v : Value) (ps : Rrow) : Prop where
  row : ∃ (A : Option Addr) (c : Nat), v = .slice A ps.length c ∧ (0 < ps.length → ∃ g off, A = some ⟨g, off, none⟩ ∧ g < w.heap.size ∧ ∀ j u, (flatR ps)[j]? = some u → w.cell? ⟨g, off + j, none⟩ = some u)
  kids : RKids w (· < w.heap.size) ps
theorem RRow.of_own {w : World} {base : Nat} {v : Value} {ps : Rrow} (h : w.ownsRow base 27 10 v ps.length (flatR ps)) (hk : RKids w (· < w.heap.size) ps) : RRow w v ps := by
  refine ⟨?_, hk⟩
  rcases h.2 with ⟨rfl, h0⟩ | ⟨g, cap, cur, rfl, hg, hh, _⟩
  · exact ⟨none, 0, by rw [h0], fun hp => by omega⟩
  · refine ⟨_, cap, rfl, fun _ => ⟨g, 0, rfl, (Array.getElem?_eq_some_iff.1 hh).1, fun j u hu => ?_⟩⟩
    have := h.cells (g := g) rfl j u hu
    have hadd : (⟨g, 0, none⟩ : Addr).add j = ⟨g, 0 + j, none⟩ := by unfold Addr.add; split <;> simp_all
    rw [hadd] at this
    exact this
theorem RRow.below {w w' : World} {v : Value} {ps : Rrow} (h : RRow w v ps) (hb : Below w.heap.size w w') : RRow w' v ps := by
  obtain ⟨⟨A, c, hv, hA⟩, hk⟩ := h
  refine ⟨⟨A, c, hv, fun hp => ?_⟩, fun p hp => ⟨((hk p hp).1.under hb).mono (fun b hl _ => hl), (hk p hp).2⟩⟩
  obtain ⟨g, off, rfl, hg, hc⟩ := hA hp
  exact ⟨g, off, rfl, by have := hb.size; omega, fun j u hu => (hb.cell (p := ⟨g, off + j, none⟩) hg).trans (hc j u hu)⟩
/-- one rule's cells -/
theorem RRow.at_ {w : World} {A : Option Addr} {n c : Nat} {ps : Rrow} (h : RRow w (.slice A n c) ps) {k : Nat} {p : Rl × Value} (hp : ps[k]? = some p) :
    ∃ g off, A = some ⟨g, off, none⟩ ∧ g < w.heap.size ∧ w.cell? ⟨g, off + k * 10, none⟩ = some (.string (bs p.1.name)) ∧ w.cell? ⟨g, off + k * 10 + 1, none⟩ = some (.int .i64 p.1.place) ∧ w.cell? ⟨g, off + k * 10 + 2, none⟩ = some (.bool p.1.more) ∧ w.cell? ⟨g, off + k * 10 + 3, none⟩ = some (.int .u8 p.1.tree.kind) ∧
      w.cell? ⟨g, off + k * 10 + 4, none⟩ = some (.string (bs p.1.tree.text)) ∧ w.cell? ⟨g, off + k * 10 + 5, none⟩ = some (.int .u8 p.1.tree.lo) ∧ w.cell? ⟨g, off + k * 10 + 6, none⟩ = some (.int .u8 p.1.tree.hi) ∧ w.cell? ⟨g, off + k * 10 + 7, none⟩ = some (.int .i64 p.1.tree.mn) ∧ w.cell? ⟨g, off + k * 10 + 8, none⟩ = some (.int .i64 p.1.tree.mx) ∧ w.cell? ⟨g, off + k * 10 + 9, none⟩ = some p.2 ∧
      KidsAt w (· < w.heap.size) p.1.tree.kids p.2 := by
  obtain ⟨⟨A', c', hv, hA⟩, hk⟩ := h
  injection hv with h1 h2 h3
  subst h1
  obtain ⟨hlt, _⟩ := List.getElem?_eq_some_iff.1 hp
  obtain ⟨g, off, rfl, hg, hc⟩ := hA (by omega)
  have key : ∀ j u, (ruleCells p.1 p.2)[j]? = some u → j < 10 → w.cell? ⟨g, off + k * 10 + j, none⟩ = some u := fun j u hu hj => by
    rw [Nat.add_assoc]
    exact hc _ u (by rw [flatR_at ps k p hp j hj, hu])
  exact ⟨g, off, rfl, hg, key 0 _ rfl (by omega), key 1 _ rfl (by omega), key 2 _ rfl (by omega), key 3 _ rfl (by omega), key 4 _ rfl (by omega), key 5 _ rfl (by omega), key 6 _ rfl (by omega), key 7 _ rfl (by omega), key 8 _ rfl (by omega), key 9 _ rfl (by omega), (hk p (List.mem_of_getElem? hp)).1⟩

end Go.Proofs.YtodenbimeojgdaaGreatDoor

/-
  The contract of frankinglow's Rules where the two lists are the same (but for places, if no is told): it answers true. Conditions: both lie in memory; at most 200000 rules.
-/
namespace Go.Proofs.YtodenbimeojgdaaGreatDoor
open Go.RowKit

/-- one operation more, the ones behind it out of sight: a guarded operation that is not run makes the goal itself unfold on and on -/
theorem wpStill_next {P : Program} {ops : Array Oper} {w : World} {Q : Act → Prop} {K : Act → Prop} {rest : List Oper} {a : Act} (hK : ∀ a, wpStill P ops w Q rest a → K a) (h : ∀ L, Hid (L = rest) → wpStill P ops w Q L a) : K a := hK a (h rest (show _ = _ from rfl))
theorem wpStill_open {P : Program} {ops : Array Oper} {w : World} {Q : Act → Prop} {L rest : List Oper} {o : Oper} {a : Act} (HL : Hid (L = o :: rest))
    (h : ∀ K : Act → Prop, (∀ a, wpStill P ops w Q rest a → K a) → if Region.wanted o (yielded ops a.tmps) then o.still P a w K else K (a.put o.dst undef)) : wpStill P ops w Q L a := by
  rw [HL.out]
  exact wpStill_step h
theorem wpStill_shut {P : Program} {ops : Array Oper} {w : World} {Q : Act → Prop} {L : List Oper} {a : Act} (HL : Hid (L = [])) (h : Q a) : wpStill P ops w Q L a := by
  rw [HL.out]
  exact h

/-- the same rule, with its place or without -/
def SameR (pl : Bool) (x y : Rl) : Prop := x.name = y.name ∧ x.more = y.more ∧ x.tree = y.tree ∧ (pl = true → x.place = y.place)

set_option maxRecDepth 100000 in
set_option maxHeartbeats 2000000 in
theorem Rules_same (a b : Value) (xs ys : Rrow) (pl : Bool) (w : World) (hn : xs.length ≤ 200000) (hl : xs.length = ys.length) (hs : ∀ (i : Nat) (x y : Rl × Value), xs[i]? = some x → ys[i]? = some y → SameR pl x.1 y.1) (ha : RRow w a xs) (hb : RRow w b ys) :
    Calls Tryz.prog 12 #[a, b, .bool pl] w fun e w' => e = .returned (.bool true) ∧ Below w.heap.size w w' := by
  obtain ⟨A, c, rfl, _⟩ := ha.row
  obtain ⟨B, d, rfl, _⟩ := hb.row
  rw [← hl] at hb ⊢
  have HS := Lib.hid hs
  have HLY := Lib.hid hl
  have HA := Lib.hid ha
  have HB := Lib.hid hb
  clear ha hb hs hl
  generalize hlen : xs.length = n at *
  have HL := Lib.hid hlen
  clear hlen
  go_enter Tryz.func12, Tryz.ntmps12
  go_wp2
  go_loopw [7, 15] (fun _ i wr => ∃ k : Nat, k ≤ n ∧ i = .int .i64 k ∧ Below w.heap.size w wr) (fun _ i _ => n - (intOf i).toNat)
  case atStart => exact ⟨0, Nat.zero_le _, rfl, Below.refl _ _⟩
  case round =>
    obtain ⟨k, hk, rfl, hbel⟩ := hrel
    by_cases hlt : k < n
    · obtain ⟨x, hx⟩ : ∃ x, xs[k]? = some x := ⟨_, List.getElem?_eq_getElem (by rw [HL.out]; exact hlt)⟩
      obtain ⟨y, hy⟩ : ∃ y, ys[k]? = some y := ⟨_, List.getElem?_eq_getElem (by rw [← HLY.out]; exact hlt)⟩
      obtain ⟨s1, s2, s3, s4⟩ := HS.out k x y hx hy
      obtain ⟨⟨xn, xp, xm, xt⟩, xv⟩ := x
      obtain ⟨⟨yn, yp, ym, yt⟩, yv⟩ := y
      simp only at s1 s2 s3 s4
      subst s1 s2 s3
      obtain ⟨g, off, rfl, hg, a0, a1, a2, a3, a4, a5, a6, a7, a8, a9, ka⟩ := (HA.out.below hbel).at_ hx
      obtain ⟨g', off', rfl, hg', b0, b1, b2, b3, b4, b5, b6, b7, b8, b9, kb⟩ := (HB.out.below hbel).at_ hy
      dsimp only at a0 a1 a2 a3 a4 a5 a6 a7 a8 a9 ka b0 b1 b2 b3 b4 b5 b6 b7 b8 b9 kb
      have HT := Lib.hid (Trees_same xt xv yv wr.drew ka.drew_ kb.drew_)
      obtain ⟨q1, d1, rfl, _⟩ := ka.form
      obtain ⟨q2, d2, rfl, _⟩ := kb.form
      have hlt' : (k : Int) < n := by omega
      have h0' : (0 : Int) ≤ k := by omega
      unfold treeV at HT
      generalize xt.kids.length = xl at *
      clear hx hy ka kb
      have HBEL := Lib.hid hbel
      clear hbel
      cases pl with
      | true =>
        have hpp := s4 rfl
        subst hpp
        clear s4
        go_wp2
        go_still_tail 51, (by kernel_rfl)
        go_wp2_with fail
        refine HT.out.mono ?_
        rintro e w5 ⟨rfl, hb5⟩
        have hbel5 : Below w.heap.size w w5 := HBEL.out.drew.trans (hb5.mono HBEL.out.size)
        clear a0 a1 a2 a3 a4 a5 a6 a7 a8 a9 b0 b1 b2 b3 b4 b5 b6 b7 b8 b9
        go_wp2
        go_roundw
        case rel => exact ⟨k + 1, by omega, by go_num, hbel5⟩
        case measure => simp [intOf]; omega
      | false =>
        clear s4
        go_wp2
        refine wp_region_still_tail 51 (by kernel_rfl) (by kernel_rfl) ?_
        simp only [List.take_succ_cons, List.take_zero, List.drop_succ_cons, List.drop_zero]
        iterate 25 still_step
        refine wpStill_step (fun K hK => ?_)
        go_simp
        refine wpStill_next hK (fun L HL => ?_)
        clear hK K
        iterate 25 (refine wpStill_open HL (fun K hK => ?_); clear HL; go_simp; refine wpStill_next hK (fun L HL => ?_); clear hK K)
        refine wpStill_shut HL ?_
        clear HL
        go_wp2_with fail
        refine HT.out.mono ?_
        rintro e w5 ⟨rfl, hb5⟩
        have hbel5 : Below w.heap.size w w5 := HBEL.out.drew.trans (hb5.mono HBEL.out.size)
        clear a0 a1 a2 a3 a4 a5 a6 a7 a8 a9 b0 b1 b2 b3 b4 b5 b6 b7 b8 b9
        go_wp2
        go_roundw
        case rel => exact ⟨k + 1, by omega, by go_num, hbel5⟩
        case measure => simp [intOf]; omega
    · go_wp2
      go_ret
      exact ⟨rfl, hbel⟩
end Go.Proofs.YtodenbimeojgdaaGreatDoor

/-
  The contracts of frankinglaw02's Of, fails and prints. Conditions: the table abnf.leaves (and, of prints, the library's powers of ten) lies where it does; not too many tokens, none too long.
-/
namespace Go.Proofs.YtodenbimeojgdaaGreatDoor
open Go.RowKit

def ofP (l : List UInt8) : List Rl × Int × Int := if (lexP l).2.2 = 0 then parseP (lexP l).1 else ([], ((lexP l).2.1 : Int), ((lexP l).2.2 : Int))

theorem own_far {w : World} {base : Nat} {A : Option Addr} {n c : Nat} {toks : List Tk} (h : w.ownsRow base 77 7 (.slice A n c) toks.length (toksCells toks)) : ∀ a, A = some a → a.block < w.heap.size := by
  intro a ha
  subst ha
  rcases h.2 with ⟨hv, _⟩ | ⟨g, cap, cur, hv, _, hg, _⟩
  · injection hv with h1; cases h1
  · injection hv with h1
    injection h1 with h1
    rw [h1]
    exact (Array.getElem?_eq_some_iff.1 hg).1

set_option maxHeartbeats 1000000 in
theorem Of_any (l : List UInt8) (hcount : (lexP l).1.length ≤ 200000) (hshort : Short (lexP l).1) (w : World) (hlv : LeavesAt w) :
    Calls Tryz.prog 19 #[.string (bs l)] w fun e w' => ParseOut w (ofP l) e w' := by
  have HLX : Hid (Calls Tryz.prog 9 #[.string (bs l)] w fun e w' => Handed w w' (lexP l) e) := by
    have := Lex_any (bs l) w
    rw [bs_toList] at this
    exact this
  have HO : Hid (ofP l = if (lexP l).2.2 = 0 then parseP (lexP l).1 else ([], ((lexP l).2.1 : Int), ((lexP l).2.2 : Int))) := show _ = _ from rfl
  have HLV := Lib.hid hlv
  have HSH := Lib.hid hshort
  clear hlv hshort
  generalize ofP l = R at *
  generalize lexP l = X at *
  obtain ⟨toks, at_, er⟩ := X
  dsimp only at hcount HSH HO
  by_cases her : er = 0
  · subst her
    rw [if_pos rfl] at HO
    go_enter Tryz.func19, Tryz.ntmps19
    go_wp2_with (go_at_call 9; refine HLX.out.mono ?_)
    rintro e w1 ⟨v, rfl, hown, hb⟩
    have hrow := TokRow.of_own hown
    obtain ⟨A, c, rfl⟩ := hrow.len
    have HPA := Lib.hid (Parse_any w1 A toks.length c toks hrow rfl (own_far hown) hcount (HLV.out.below hb HLV.out.lt) HSH.out)
    have HB := Lib.hid hb
    clear hown hrow hb
    go_wp2_with (go_at_call 10; refine HPA.out.mono ?_)
    rintro e w2 ⟨v2, rfl, hr2, hb2⟩
    have HEND : Hid (RulesAt w2 w.heap.size v2 (parseP toks).1 ∧ Below w.heap.size w w2) := by
      obtain ⟨⟨ps, h1, h2, h3⟩⟩ := hr2
      exact ⟨⟨⟨ps, h1, ownsRow_mono h2 HB.out.size, h3⟩⟩, HB.out.trans (hb2.mono HB.out.size)⟩
    clear hr2 hb2
    go_wp2
    go_ret3
    refine ⟨v2, ?_, ?_, HEND.out.2⟩
    · rw [HO.out]
      rfl
    · rw [HO.out]
      exact HEND.out.1
  · rw [if_neg her] at HO
    have her' : ¬ (er : Int) = 0 := by omega
    go_enter Tryz.func19, Tryz.ntmps19
    go_wp2_with (go_at_call 9; refine HLX.out.mono ?_)
    rintro e w1 ⟨v, rfl, hown, hb⟩
    clear hown
    have HB := Lib.hid hb
    clear hb
    go_wp2
    go_ret3
    refine ⟨.slice none 0 0, ?_, ?_, HB.out⟩
    · rw [HO.out]
      rfl
    · rw [HO.out]
      exact ⟨⟨[], rfl, World.ownsRow_nil _ _ _ _, fun p hp => (by cases hp)⟩⟩

set_option maxHeartbeats 1000000 in
theorem fails_true (l : List UInt8) (at_ er : Int) (hcount : (lexP l).1.length ≤ 200000) (hshort : Short (lexP l).1) (h : ofP l = ([], at_, er)) (w : World) (hlv : LeavesAt w) :
    Calls Tryz.prog 22 #[.string (bs l), .int .i64 at_, .int .i64 er] w fun e w' => e = .returned (.bool true) ∧ Below w.heap.size w w' := by
  have HOF := Of_any l hcount hshort w hlv
  rw [h] at HOF
  have HO := Lib.hid HOF
  clear HOF hlv h hcount hshort
  go_enter Tryz.func22, Tryz.ntmps22
  go_wp2_with (go_at_call 19; refine HO.out.mono ?_)
  rintro e w1 ⟨v, rfl, hr, hb⟩
  obtain ⟨⟨ps, hps, hown, _⟩⟩ := hr
  have hp0 : ps = [] := by simpa using hps
  subst hp0
  obtain ⟨A, c, rfl, _⟩ := (RRow.of_own hown (fun p hp => (by cases hp))).row
  have HB := Lib.hid hb
  clear hown hb hps
  go_wp2
  go_ret
  exact ⟨rfl, HB.out⟩
end Go.Proofs.YtodenbimeojgdaaGreatDoor

/-
  Texts with brackets more are read as the same rules, in plain terms. No conditions.
-/
namespace Go.Proofs.YtodenbimeojgdaaGreatDoor
open Go.RowKit

/-! ### no end of a line in a printed tree -/
def No10 (l : List UInt8) : Prop := ∀ c ∈ l, c ≠ 10
theorem No10.app {a b : List UInt8} (ha : No10 a) (hb : No10 b) : No10 (a ++ b) := fun c hc => by
  rcases List.mem_append.1 hc with h | h
  · exact ha c h
  · exact hb c h
theorem no10_named (l : List UInt8) (h : ∀ c ∈ l, namedZ c.toNat = true) : No10 l := fun c hc e => by
  have := h c hc
  rw [e] at this
  revert this
  decide
theorem no10_chars : ∀ (l : List UInt8), charsB l = true → No10 l := by
  intro l h c hc e
  have := List.all_eq_true.1 h c hc
  rw [e] at this
  revert this
  decide
theorem no10_digits (l : List UInt8) (h : ∀ c ∈ l, digitZ c.toNat = true) : No10 l := fun c hc e => by
  have := h c hc
  rw [e] at this
  revert this
  decide
theorem no10_pair (x : UInt8) : No10 (pairP x) := fun c hc => by
  have := (byte_all (p := fun x => hexC (x.toNat / 16) ≠ 10 ∧ hexC (x.toNat % 16) ≠ 10) (by decide +kernel) x)
  simp only [pairP, List.mem_cons, List.not_mem_nil, or_false] at hc
  rcases hc with rfl | rfl
  · exact this.1
  · exact this.2
theorem no10_hexes (b : List UInt8) (hb : No10 b) : ∀ (l a : List UInt8), No10 a → No10 (hexesP a b l) := by
  intro l
  induction l with
  | nil => intro a _ c hc; cases hc
  | cons x r ih => intro a ha; exact (ha.app (no10_pair x)).app (ih b hb)
theorem no10_times (mn mx : Int) (h : timesB mn mx = true) : No10 (timesTextP mn mx) := by
  simp only [timesB, Bool.and_eq_true, Bool.or_eq_true, decide_eq_true_eq, beq_iff_eq] at h
  obtain ⟨⟨h0, h1⟩, h2⟩ := h
  have i1 := no10_digits _ (itoa_facts mn h0 h1).1
  unfold timesTextP
  split
  · exact i1
  · refine (No10.app ?_ ?_).app ?_
    · split
      · exact i1
      · exact fun c hc => by cases hc
    · intro c hc
      rw [List.mem_singleton] at hc
      subst hc
      decide
    · split
      · rename_i hx
        exact no10_digits _ (itoa_facts mx hx (by omega)).1
      · exact fun c hc => by cases hc
theorem no10_kids (f : Tr → List UInt8) (br : List Int) (b : List UInt8) (hb : No10 b) : ∀ (ks : List Tr) (a : List UInt8), No10 a → (∀ k ∈ ks, No10 (f k)) → No10 (kidsF f a b br ks) := by
  intro ks
  induction ks with
  | nil => intro a _ _ c hc; cases hc
  | cons k r ih =>
    intro a ha h
    have hk : No10 (kidP f br k) := by
      unfold kidP
      split
      · refine (No10.app ?_ (h k (by simp))).app ?_ <;> (intro c hc; rw [List.mem_singleton] at hc; subst hc; decide)
      · exact h k (by simp)
    exact (ha.app hk).app (ih b hb (fun x hx => h x (by simp [hx])))
theorem no10_print : ∀ (d : Nat) (t : Tr), rightD d t = true → No10 (printD d t) := by
  intro d
  induction d with
  | zero => intro t h; cases h
  | succ d ih =>
    intro t h
    obtain ⟨e, he, ha, hkids⟩ := right_kinds h
    obtain rfl : d = e := by omega
    have hrec : ∀ k ∈ t.kids, No10 (printD d k) := fun k hk => ih k (hkids k hk)
    have hnil : No10 [] := fun c hc => by cases hc
    rw [printD]
    split
    · rename_i h1
      obtain ⟨_, _, _, _, hall⟩ := name_parts (alone_1 ha h1).1
      exact no10_named _ hall
    split
    · rename_i h1
      refine (No10.app ?_ (no10_chars _ (alone_2 ha h1).1)).app ?_ <;> (intro c hc; rw [List.mem_singleton] at hc; subst hc; decide)
    split
    · exact no10_hexes _ (by intro c hc; rw [List.mem_singleton] at hc; subst hc; decide) _ _ (by unfold No10; decide)
    split
    · exact no10_hexes _ (by intro c hc; rw [List.mem_singleton] at hc; subst hc; decide) _ _ (by unfold No10; decide)
    split
    · rename_i h7
      exact (no10_times _ _ (alone_7 ha h7).1).app (no10_kids _ _ _ hnil _ _ hnil hrec)
    split
    · exact no10_kids _ _ _ (by unfold No10; decide) _ _ hnil hrec
    split
    · exact no10_kids _ _ _ (by unfold No10; decide) _ _ hnil hrec
    · exact hnil

/-! ### a rule's line -/
theorem mid_rule (n : List UInt8) (hn : ∃ c r, n = c :: r ∧ letterZ c.toNat = true ∧ ∀ d ∈ n, namedZ d.toNat = true) (more : Bool) (y : List UInt8) (ts : List Tk) (h : Mid y ts) :
    Mid (n ++ (if more = true then [32, 61, 47, 32] else [32, 61, 32]) ++ y) ({ kind := 1, text := n } :: { kind := if more = true then 3 else 2 } :: ts) := by
  have hne : n ≠ [] := by obtain ⟨c, r, rfl, _⟩ := hn; simp
  cases more with
  | true =>
    have h1 : Mid ([61, 47] ++ (32 :: y)) ({ kind := 3 } :: ts) := mid_piece [61, 47] (32 :: y) { kind := 3 } ts rfl (by decide) rfl (by simp) (mid_gap _ _ h)
    have h2 : Mid (32 :: ([61, 47] ++ (32 :: y))) ({ kind := 3 } :: ts) := mid_gap _ _ h1
    have h3 := mid_piece n _ { kind := 1, text := n } _ (read_word n _ hn (.inr ⟨32, _, rfl, by decide⟩)) (by show (1 : Int) ≠ 0; omega) rfl hne h2
    rw [show n ++ (if true = true then [32, 61, 47, 32] else [32, 61, 32]) ++ y = n ++ (32 :: ([61, 47] ++ (32 :: y))) from by simp]
    exact h3
  | false =>
    have h1 : Mid ([61] ++ (32 :: y)) ({ kind := 2 } :: ts) := mid_piece [61] (32 :: y) { kind := 2 } ts rfl (by decide) rfl (by simp) (mid_gap _ _ h)
    have h2 : Mid (32 :: ([61] ++ (32 :: y))) ({ kind := 2 } :: ts) := mid_gap _ _ h1
    have h3 := mid_piece n _ { kind := 1, text := n } _ (read_word n _ hn (.inr ⟨32, _, rfl, by decide⟩)) (by show (1 : Int) ≠ 0; omega) rfl hne h2
    rw [show n ++ (if false = true then [32, 61, 47, 32] else [32, 61, 32]) ++ y = n ++ (32 :: ([61] ++ (32 :: y))) from by simp]
    exact h3
theorem index_no10 : ∀ (l : List UInt8), No10 l → Lib.indexByte l 10 = -1 := by
  intro l
  induction l with
  | nil => intro _; rfl
  | cons c r ih =>
    intro h
    have h1 := h c (by simp)
    have h2 := ih (fun d hd => h d (by simp [hd]))
    simp only [Lib.indexByte]
    rw [if_neg (by intro e; exact h1 (by simpa using e)), h2]
    rfl
theorem cut_no10 (l : List UInt8) (h : No10 l) : cutP l 0 = (l, l.length) := by
  unfold cutP
  rw [List.drop_zero, index_no10 l h, if_pos (by omega)]
/-- one rule in one line -/
theorem lex_line (r : List UInt8) (ts : List Tk) (c : UInt8) (q : List UInt8) (hr : r = c :: q) (hc : letterZ c.toNat = true) (hno : No10 r) (hl : r.length ≤ 65536) (hm : Mid r ts) : (lexP r).2 = (0, 0) ∧ (lexP r).1.map bare = ts ++ [{ kind := 13 }] := by
  have hcut := cut_no10 r hno
  have hidle : idleB r = false := by
    rw [hr, idle_cons]
    have h1 : ((c.toNat : Int) == 59) = false ∧ blankZ c.toNat = false := byte_all (p := fun c => letterZ c.toNat = true → ((c.toNat : Int) == 59) = false ∧ blankZ c.toNat = false) (by decide +kernel) c hc
    rw [h1.1, h1.2]
    rfl
  have := rest0_rule (r := r) (ts := ts) (us := []) (by rw [hr]; simp) (by rw [hcut]; exact hidle) (by rw [hcut, hr, byteZ_cons]; exact hc) (by rw [hcut]; exact hm) (by rw [hcut, List.drop_length]; exact rest_nil)
  rw [List.append_nil] at this
  exact rest0_lex hl this

/-! ### tokens that stand for a tree -/
def PartT (us : List Tk) (t : Tr) : Prop := ∀ (l : List Tk) (at_ : Nat) (st : List Grp) (g : Grp) (rest : List Tk), restB l at_ = us ++ rest → CC l at_ (st ++ [g]) = AA l (at_ + us.length) (st ++ [addG t g])
def ContT (us : List Tk) (t : Tr) : Prop := ∀ (l : List Tk) (at_ : Nat) (st : List Grp) (g : Grp) (rest : List Tk), g.rows = [] → g.parts = [] → (g.shut = 6 ∨ g.shut = 13) → restB l at_ = us ++ rest →
  ∃ g', CC l at_ (st ++ [g]) = AA l (at_ + us.length) (st ++ [g']) ∧ g'.shut = g.shut ∧ g'.times = g.times ∧ togetherP 6 (endRowP g').rows = t
theorem contT_of (t : Tr) (h : rightB t = true) : ContT (toksD 100 t) t := (parse_ok 100 t h).2.2
theorem PartT.cont {us : List Tk} {t : Tr} (h : PartT us t) : ContT us t := by
  intro l at_ st g rest hr hp hs hR
  refine ⟨addG t g, h l at_ st g rest hR, rfl, rfl, ?_⟩
  show togetherP 6 (g.rows ++ [togetherP 5 (g.parts ++ [t])]) = t
  rw [hr, hp]
  rfl
theorem ContT.bracket {us : List Tk} {t : Tr} (h : ContT us t) : PartT ([tOpen] ++ us ++ [tShut]) t := by
  intro l at_ st g rest hR
  have hR1 : restB l at_ = tOpen :: (us ++ ([tShut] ++ rest)) := by rw [hR]; simp
  have hh := how_rest hR1
  rw [if_neg (by intro hx; exact absurd hx.1 (by decide))] at hh
  have hR2 := (rest_cons hR1).2
  obtain ⟨g', h1, h2, h3, h4⟩ := h l (at_ + 1) (st ++ [g]) (newG noTree) _ rfl rfl (.inl rfl) hR2
  have hR3 := rest_drop hR2
  rw [CC_eq, hh]
  simp only
  rw [D_open hR1, h1, A_shut hR3 st g g' h2, whole_of h2 (.inl rfl) h3 h4]
  show AA l _ (st ++ [addG t g]) = _
  congr 1
  simp only [List.length_append, List.length_cons, List.length_nil]
  omega
/-- brackets, so often -/
def brT : Nat → List Tk → List Tk
  | 0, us => us
  | n + 1, us => [tOpen] ++ brT n us ++ [tShut]
def brX : Nat → List UInt8 → List UInt8
  | 0, x => x
  | n + 1, x => [40] ++ brX n x ++ [32, 41]
theorem ContT.many {us : List Tk} {t : Tr} (h : ContT us t) : ∀ n, ContT (brT n us) t := by
  intro n
  induction n with
  | zero => exact h
  | succ n ih => exact ih.bracket.cont
theorem reads_loose {x : List UInt8} {us : List Tk} (h : Reads x us) : Reads ([40] ++ x ++ [32, 41]) ([tOpen] ++ us ++ [tShut]) := by
  intro y ts hy hm
  rw [show [40] ++ x ++ [32, 41] ++ y = [40] ++ (x ++ ([32] ++ ([41] ++ y))) from by simp, show [tOpen] ++ us ++ [tShut] ++ ts = [tOpen] ++ (us ++ ([tShut] ++ ts)) from by simp]
  exact mid_open _ _ (h _ _ (ends_32 _) (mid_gap _ _ (mid_shut _ _ hm)))
theorem reads_many {x : List UInt8} {us : List Tk} (h : Reads x us) : ∀ n, Reads (brX n x) (brT n us) := by
  intro n
  induction n with
  | zero => exact h
  | succ n ih => exact reads_loose ih
theorem no10_many {x : List UInt8} (h : No10 x) : ∀ n, No10 (brX n x) := by
  intro n
  induction n with
  | zero => exact h
  | succ n ih => exact (No10.app (by unfold No10; decide) ih).app (by unfold No10; decide)
theorem rep_snoc (l : List UInt8) : ∀ n, Lib.repeatL l (n + 1) = Lib.repeatL l n ++ l := by
  intro n
  induction n with
  | zero => simp [Lib.repeatL]
  | succ n ih =>
    show l ++ Lib.repeatL l (n + 1) = (l ++ Lib.repeatL l n) ++ l
    rw [ih, List.append_assoc]
theorem brX_rep (x : List UInt8) : ∀ n, Lib.repeatL [40] n ++ x ++ Lib.repeatL [32, 41] n = brX n x := by
  intro n
  induction n with
  | zero => simp [brX, Lib.repeatL]
  | succ n ih =>
    rw [brX, ← ih, rep_snoc [32, 41], show Lib.repeatL [40] (n + 1) = [40] ++ Lib.repeatL [40] n from rfl]
    simp
theorem brX_len (x : List UInt8) : ∀ n, (brX n x).length = x.length + 3 * n := by
  intro n
  induction n with
  | zero => rfl
  | succ n ih => rw [brX, List.length_append, List.length_append, ih]; simp only [List.length_cons, List.length_nil]; omega

/-! ### one rule's text, back -/
theorem rule_of {l : List Tk} {at_ : Nat} {n : List UInt8} {more : Bool} {us : List Tk} {t : Tr} {rest : List Tk} (hR : restB l at_ = { kind := 1, text := n } :: { kind := if more = true then 3 else 2 } :: (us ++ { kind := 13 } :: rest)) (hn : nameB (n.map smallC) = true) (hc : ContT us t) :
    ruleP l at_ = (some { name := n.map smallC, place := placeP l at_, more := more, tree := t }, at_ + 3 + us.length) := by
  have hR2 := (rest_cons hR).2
  have hR3 := (rest_cons hR2).2
  have hm : meaningP { kind := 1, text := n } = .mk 1 (n.map smallC) 0 0 0 0 [] := rfl
  have hrl : rightB (meaningP { kind := 1, text := n }) = true := by
    rw [hm]
    refine right_leaf ?_ rfl
    have e : aloneB (.mk 1 (n.map smallC) 0 0 0 0 []) = (nameB (n.map smallC) && noRangeB (.mk 1 (n.map smallC) 0 0 0 0 []) && noTimesB (.mk 1 (n.map smallC) 0 0 0 0 []) && true) := rfl
    rw [e, hn]
    rfl
  have hl := leaf_rest hR [1]
  rw [if_pos ⟨rfl, hrl⟩, hm] at hl
  have hs23 : standsP l (at_ + 1) [2, 3] = true := by
    rw [stands_rest hR2]
    cases more <;> rfl
  have hs3 : standsP l (at_ + 1) [3] = more := by
    rw [stands_rest hR2]
    cases more <;> rfl
  obtain ⟨g', h1, h2, h3, h4⟩ := hc l (at_ + 2) [] firstG _ rfl rfl (.inr rfl) hR3
  have hR4 := rest_drop hR3
  have hch : choicesP l (at_ + 2) = (some t, at_ + 2 + us.length + 1) := by
    show CC l (at_ + 2) ([] ++ [firstG]) = _
    rw [h1, List.nil_append, A_end hR4 rfl g' h2, whole_of h2 (.inr rfl) h3 h4]
    rfl
  unfold ruleP
  rw [hl]
  simp only
  rw [if_pos hs23, hch, hs3]
  have e : at_ + 2 + us.length + 1 = at_ + 3 + us.length := by omega
  rw [← e]
  rfl
/-- a text of one rule -/
theorem of_line (n : List UInt8) (hn : ∃ c r, n = c :: r ∧ letterZ c.toNat = true ∧ ∀ d ∈ n, namedZ d.toNat = true) (hs : nameB (n.map smallC) = true) (more : Bool) (x : List UInt8) (us : List Tk) (t : Tr) (hx : Mid x us) (hno : No10 x) (hc : ContT us t) (ht : rightB t = true) (hl : (n ++ (if more = true then [32, 61, 47, 32] else [32, 61, 32]) ++ x).length ≤ 65536) :
    ∃ p, ofP (n ++ (if more = true then [32, 61, 47, 32] else [32, 61, 32]) ++ x) = ([{ name := n.map smallC, place := p, more := more, tree := t }], 0, 0) := by
  obtain ⟨c, q, hcq, hcl, hall⟩ := hn
  have hno2 : No10 (n ++ (if more = true then [32, 61, 47, 32] else [32, 61, 32]) ++ x) := ((no10_named n hall).app (by cases more <;> (unfold No10; decide))).app hno
  obtain ⟨h1, h2⟩ := lex_line _ _ c (q ++ (if more = true then [32, 61, 47, 32] else [32, 61, 32]) ++ x) (by rw [hcq]; rfl) hcl hno2 hl (mid_rule n ⟨c, q, hcq, hcl, hall⟩ more x us hx)
  generalize n ++ (if more = true then [32, 61, 47, 32] else [32, 61, 32]) ++ x = text at *
  unfold ofP
  generalize lexP text = X at *
  obtain ⟨toks, pl, er⟩ := X
  simp only [Prod.mk.injEq] at h1 h2 ⊢
  obtain ⟨rfl, rfl⟩ := h1
  rw [if_pos rfl]
  have hR : restB toks 0 = { kind := 1, text := n } :: { kind := if more = true then 3 else 2 } :: (us ++ { kind := 13 } :: []) := by
    unfold restB
    rw [List.drop_zero, h2]
    rfl
  have hrule := rule_of hR hs hc
  have hlen : toks.length = 3 + us.length := by
    have := congrArg List.length h2
    simp at this
    omega
  refine ⟨placeP toks 0, ?_⟩
  unfold parseP
  rw [hlen, show 3 + us.length + 1 = (3 + us.length) + 1 from rfl, parseF_some (by omega) hrule, if_pos ht, parseF_end (by omega)]
  rfl
end Go.Proofs.YtodenbimeojgdaaGreatDoor

/-
  A grown tree's text is not long: at most 26 bytes a number, and 7. Conditions: names of at most 7 bytes.
-/
namespace Go.Proofs.YtodenbimeojgdaaGreatDoor
open Go.RowKit

theorem nextP_to (u : List Nat) (at_ below : Nat) : at_ ≤ (nextP u at_ below).2 ∧ (at_ ≤ u.length → (nextP u at_ below).2 ≤ u.length) ∧ (at_ < u.length → (nextP u at_ below).2 = at_ + 1) := by
  unfold nextP
  by_cases h : u.length ≤ at_
  · rw [if_pos h]
    exact ⟨Nat.le_refl _, fun h => h, fun h2 => by omega⟩
  · rw [if_neg h]
    exact ⟨Nat.le_succ _, fun _ => by show at_ + 1 ≤ u.length; omega, fun _ => rfl⟩
/-- where it ends, and how long it is -/
def LenOk (u : List Nat) (d at_ : Nat) (R : Tr × Nat) : Prop := at_ ≤ R.2 ∧ (at_ ≤ u.length → R.2 ≤ u.length) ∧ (printD d R.1).length + 26 * at_ ≤ 26 * R.2 + 7
theorem leaf_len (names : List (List UInt8)) (hn : ∀ n ∈ names, n.length ≤ 7) (u : List Nat) (n at_ a0 d : Nat) (h0 : a0 ≤ at_) (h1 : a0 ≤ u.length → at_ ≤ u.length) : LenOk u (d + 1) a0 (leafG names u n at_) := by
  have key : ∀ (t : Tr) (b : Nat), at_ ≤ b → (at_ ≤ u.length → b ≤ u.length) → (printD (d + 1) t).length ≤ 7 → LenOk u (d + 1) a0 (t, b) := fun t b h2 h3 h4 => ⟨by show a0 ≤ b; omega, fun h => h3 (h1 h), by show (printD (d + 1) t).length + 26 * a0 ≤ 26 * b + 7; omega⟩
  unfold leafG
  by_cases e0 : n = 0
  · rw [if_pos e0]
    by_cases hl : names.length = 0
    · rw [if_pos hl]
      exact key _ _ (Nat.le_refl _) (fun h => h) (by show ([34] ++ [98] ++ [34] : List UInt8).length ≤ 7; decide)
    · rw [if_neg hl]
      have hm := hn _ (getD_mem names (nextP u at_ names.length).1 [] (nextP_lt _ _ _ (by omega)))
      obtain ⟨p1, p2, _⟩ := nextP_to u at_ names.length
      exact key _ _ p1 p2 hm
  rw [if_neg e0]
  by_cases e1 : n = 1
  · rw [if_pos e1]
    obtain ⟨p1, p2, _⟩ := nextP_to u at_ 6
    refine key _ _ p1 p2 ?_
    have hall : ∀ x ∈ charWords, ([34] ++ x ++ [34] : List UInt8).length ≤ 7 := by decide
    exact hall _ (getD_mem charWords _ [] (nextP_lt u at_ 6 (by omega)))
  rw [if_neg e1]
  by_cases e2 : n = 2
  · rw [if_pos e2]
    obtain ⟨p1, p2, _⟩ := nextP_to u at_ 5
    refine key _ _ p1 p2 ?_
    have hall : ∀ x ∈ byteWords, (hexesP [37, 120] [46] x).length ≤ 7 := by decide
    exact hall _ (getD_mem byteWords _ [] (nextP_lt u at_ 5 (by omega)))
  rw [if_neg e2]
  obtain ⟨p1, p2, _⟩ := nextP_to u at_ 256
  obtain ⟨q1, q2, _⟩ := nextP_to u (nextP u at_ 256).2 (256 - (nextP u at_ 256).1)
  refine key _ _ (Nat.le_trans p1 q1) (fun h => q2 (p2 h)) ?_
  show (hexesP [37, 120] [45] [byteOf _, byteOf _]).length ≤ 7
  simp [hexesP, pairP]
theorem kids_len (f : Nat → Tr × Nat) (u : List Nat) (d : Nat) (hf : ∀ a, LenOk u d a (f a)) (br : List Int) (bw : List UInt8) (hbw : bw.length ≤ 3) (a0 : Nat) : ∀ m, a0 ≤ (kidsG f m a0).2 ∧ (a0 ≤ u.length → (kidsG f m a0).2 ≤ u.length) ∧ (kidsF (printD d) [] bw br (kidsG f m a0).1).length + 26 * a0 + (if m = 0 then 0 else 3) ≤ 26 * (kidsG f m a0).2 + 12 * m := by
  intro m
  induction m with
  | zero => exact ⟨Nat.le_refl _, fun h => h, by show 0 + 26 * a0 + 0 ≤ 26 * a0 + 0; omega⟩
  | succ m ih =>
    obtain ⟨i1, i2, i3⟩ := ih
    have hl := kidsG_len f m a0
    obtain ⟨j1, j2, j3⟩ := hf (kidsG f m a0).2
    show a0 ≤ (f (kidsG f m a0).2).2 ∧ (a0 ≤ u.length → (f (kidsG f m a0).2).2 ≤ u.length) ∧ (kidsF (printD d) [] bw br ((kidsG f m a0).1 ++ [(f (kidsG f m a0).2).1])).length + 26 * a0 + (if m + 1 = 0 then 0 else 3) ≤ 26 * (f (kidsG f m a0).2).2 + 12 * (m + 1)
    generalize kidsG f m a0 = KG at *
    generalize f KG.2 = T at *
    refine ⟨by omega, fun h => j2 (i2 h), ?_⟩
    have hk : (kidP (printD d) br T.1).length ≤ (printD d T.1).length + 2 := by
      unfold kidP
      split
      · rw [List.length_append, List.length_append]; simp only [List.length_cons, List.length_nil]; omega
      · omega
    rw [kidsF_snoc, List.length_append, List.length_append, hl, if_neg (show ¬ m + 1 = 0 by omega)]
    by_cases hm : m = 0
    · rw [if_pos hm] at i3 ⊢
      simp only [List.length_nil]
      omega
    · rw [if_neg hm] at i3 ⊢
      omega
theorem some_len (f : Nat → Tr × Nat) (u : List Nat) (d : Nat) (hf : ∀ a, LenOk u d a (f a)) (kind : Int) (hk : kind = 5 ∨ kind = 6) (at_ a1 : Nat) (h1 : a1 = at_ + 1) (h2 : a1 ≤ u.length) : LenOk u (d + 1) at_ (someG f u kind a1) := by
  have hm := nextP_lt u a1 2 (by omega)
  obtain ⟨p1, p2, _⟩ := nextP_to u a1 2
  unfold someG
  generalize nextP u a1 2 = p at *
  obtain ⟨q, a0⟩ := p
  simp only at hm p1 p2 ⊢
  have key : ∀ br bw, bw.length ≤ 3 → (kidsF (printD d) [] bw br (kidsG f (2 + q) a0).1).length + 26 * at_ ≤ 26 * (kidsG f (2 + q) a0).2 + 7 := by
    intro br bw hbw
    obtain ⟨_, _, k3⟩ := kids_len f u d hf br bw hbw a0 (2 + q)
    rw [if_neg (by omega)] at k3
    omega
  obtain ⟨k1, k2, _⟩ := kids_len f u d hf [] [] (by simp) a0 (2 + q)
  refine ⟨by show at_ ≤ (kidsG f (2 + q) a0).2; omega, fun _ => k2 (p2 h2), ?_⟩
  show (printD (d + 1) (.mk kind [] 0 0 0 0 (kidsG f (2 + q) a0).1)).length + 26 * at_ ≤ 26 * (kidsG f (2 + q) a0).2 + 7
  rcases hk with rfl | rfl
  · exact key [5, 6] [32] (by simp)
  · exact key [6] [32, 47, 32] (by simp)
theorem often_to (u : List Nat) (a1 : Nat) : a1 ≤ (oftenG u a1).2.2 ∧ (a1 ≤ u.length → (oftenG u a1).2.2 ≤ u.length) := by
  obtain ⟨p1, p2, _⟩ := nextP_to u a1 5
  obtain ⟨q1, q2, _⟩ := nextP_to u (nextP u a1 5).2 3
  obtain ⟨r1, r2, _⟩ := nextP_to u (nextP u (nextP u a1 5).2 3).2 3
  unfold oftenG
  split
  · exact ⟨p1, p2⟩
  · split
    · exact ⟨p1, p2⟩
    · split
      · exact ⟨p1, p2⟩
      · split
        · exact ⟨Nat.le_trans p1 (Nat.le_trans q1 r1), fun h => r2 (q2 (p2 h))⟩
        · exact ⟨p1, p2⟩
theorem times_len (f : Nat → Tr × Nat) (u : List Nat) (d : Nat) (hf : ∀ a, LenOk u d a (f a)) (at_ a1 : Nat) (h1 : a1 = at_ + 1) (h2 : a1 ≤ u.length) : LenOk u (d + 1) at_ (timesG f u a1) := by
  obtain ⟨o1, o2⟩ := often_to u a1
  obtain ⟨_, g2, g3, g4, g5⟩ := often_ok u a1
  unfold timesG
  generalize oftenG u a1 = o at *
  obtain ⟨mn, mx, a⟩ := o
  simp only at o1 o2 g2 g3 g4 g5 ⊢
  obtain ⟨k1, k2, k3⟩ := hf a
  generalize f a = T at *
  have ht : (timesTextP mn mx).length ≤ 9 := by
    unfold timesTextP
    have i1 := itoa_short mn g2 (by omega)
    split
    · omega
    · by_cases hx : 0 ≤ mx
      · have i2 := itoa_short mx hx g5
        rw [if_pos hx]
        split
        · simp only [List.length_append, List.length_cons, List.length_nil]; omega
        · simp only [List.length_append, List.length_cons, List.length_nil]; omega
      · rw [if_neg hx]
        split
        · simp only [List.length_append, List.length_cons, List.length_nil]; omega
        · simp
  refine ⟨by show at_ ≤ T.2; omega, fun _ => k2 (o2 h2), ?_⟩
  show (timesTextP mn mx ++ kidsF (printD d) [] [] [7, 5, 6] [T.1]).length + 26 * at_ ≤ 26 * T.2 + 7
  have hk : (kidsF (printD d) [] [] [7, 5, 6] [T.1]).length ≤ (printD d T.1).length + 2 := by
    show (([] : List UInt8) ++ kidP (printD d) [7, 5, 6] T.1 ++ []).length ≤ _
    rw [List.append_nil, List.nil_append]
    unfold kidP
    split
    · rw [List.length_append, List.length_append]; simp only [List.length_cons, List.length_nil]; omega
    · omega
  rw [List.length_append]
  omega
theorem grow_len (names : List (List UInt8)) (hn : ∀ n ∈ names, n.length ≤ 7) (u : List Nat) : ∀ (r at_ : Nat), LenOk u (r + 1) at_ (growT names u r at_) := by
  intro r
  induction r with
  | zero =>
    intro at_
    obtain ⟨p1, p2, _⟩ := nextP_to u at_ 4
    exact leaf_len names hn u _ _ at_ 0 p1 p2
  | succ r ih =>
    intro at_
    rw [growT]
    obtain ⟨p1, p2, _⟩ := nextP_to u at_ 4
    obtain ⟨q1, q2, q3⟩ := nextP_to u at_ 10
    split
    · exact leaf_len names hn u _ _ at_ _ p1 p2
    · rename_i hl
      have e := q3 (by omega)
      unfold pickG
      split
      · exact leaf_len names hn u _ _ at_ _ q1 q2
      · split
        · exact some_len _ u (r + 1) ih 5 (.inl rfl) at_ _ e (by omega)
        · split
          · exact some_len _ u (r + 1) ih 6 (.inr rfl) at_ _ e (by omega)
          · exact times_len _ u (r + 1) ih at_ _ e (by omega)
theorem grown_short (names : List (List UInt8)) (hn : NamesOk names) (h7 : ∀ n ∈ names, n.length ≤ 7) (u : List Nat) (hu : u.length ≤ 200) : (printD 100 (growT names u 6 0).1).length ≤ 5207 := by
  have h := grow_len names h7 u 6 0
  have hg := grow_ok names hn u 6 0
  rw [print_deeper 7 100 _ (by omega) hg.right]
  obtain ⟨_, h2, h3⟩ := h
  have h4 := h2 (Nat.zero_le _)
  have h5 : (printD 7 (growT names u 6 0).1).length + 26 * 0 ≤ 26 * (growT names u 6 0).2 + 7 := h3
  omega

/-! ### AbnfBrackets' two texts -/
def ruleA : List UInt8 := [82, 117, 108, 101]
def ruleB : List UInt8 := [114, 85, 108, 101]
def ruleC : List UInt8 := [114, 117, 108, 101]
theorem small_A : ruleA.map smallC = ruleC := by decide
theorem small_B : ruleB.map smallC = ruleC := by decide
def orT (a b : Tr) : Tr := .mk 6 [] 0 0 0 0 [a, .mk 5 [] 0 0 0 0 [b, a]]
theorem two_cont {p1 p2 p3 : List Tk} {a b : Tr} (h1 : PartT p1 a) (h2 : PartT p2 b) (h3 : PartT p3 a) (hq : ∃ q, p3 = tOpen :: q) : ContT (p1 ++ ([{ kind := 4 }] ++ (p2 ++ p3))) (orT a b) := by
  intro l at_ st g rest hr hp hs hR
  rw [List.append_assoc] at hR
  have e1 := h1 l at_ st g _ hR
  have R1 := rest_drop hR
  have R1' : restB l (at_ + p1.length) = { kind := 4 } :: (p2 ++ p3 ++ rest) := by rw [R1]; rfl
  have R2 := (rest_cons R1').2
  rw [List.append_assoc] at R2
  have e2 := A_or R1' rfl st (addG a g) hs
  have e3 := h2 l (at_ + p1.length + 1) st (endRowP (addG a g)) _ R2
  have R3 := rest_drop R2
  obtain ⟨q, rfl⟩ := hq
  have e4 := A_next (u := tOpen) (r := q ++ rest) (by rw [R3]; rfl) (by decide) st (addG b (endRowP (addG a g))) (by show (5 : Int) ≠ g.shut; omega)
  have e5 := h3 l (at_ + p1.length + 1 + p2.length) st (addG b (endRowP (addG a g))) rest R3
  refine ⟨addG a (addG b (endRowP (addG a g))), ?_, rfl, rfl, ?_⟩
  · rw [e1, e2, e3, e4, e5]
    congr 1
    simp only [List.length_append, List.length_cons, List.length_nil]
    omega
  · show togetherP 6 (g.rows ++ [togetherP 5 (g.parts ++ [a])] ++ [togetherP 5 ([] ++ [b] ++ [a])]) = _
    rw [hr, hp]
    rfl
theorem brackets_one (n : Nat) (hn : n ≤ 40) (a : Tr) (ha : rightB a = true) (hb : byteD 100 a) (hl : (printD 100 a).length ≤ 6000) : ∃ p, ofP (ruleA ++ [32, 61, 32] ++ brX n (printD 100 a)) = ([{ name := ruleC, place := p, more := false, tree := a }], 0, 0) := by
  have hm : Mid (brX n (printD 100 a)) (brT n (toksD 100 a)) := by
    have := reads_many (print_reads 100 a ha hb) n [] [] (.inl rfl) mid_nil
    rw [List.append_nil, List.append_nil] at this
    exact this
  have := of_line ruleA ⟨82, [117, 108, 101], rfl, by decide, by decide⟩ (by rw [small_A]; decide) false _ _ a hm (no10_many (no10_print 100 a ha) n) ((contT_of a ha).many n) ha (by
    rw [List.length_append, brX_len]
    show 7 + _ ≤ 65536
    omega)
  rw [small_A] at this
  exact this
theorem brackets_two (n : Nat) (hn : n ≤ 40) (a b : Tr) (ha : rightD 50 a = true) (hb : rightD 50 b = true) (ya : byteD 100 a) (yb : byteD 100 b) (hl : (printD 100 a).length ≤ 6000) (hl2 : (printD 100 b).length ≤ 6000) :
    ∃ p, ofP (ruleB ++ [32, 61, 32] ++ ([40] ++ brX n (printD 100 a) ++ [41] ++ ([32, 47, 32] ++ ([40] ++ printD 100 b ++ [41] ++ ([32] ++ ([40] ++ printD 100 a ++ [41])))))) = ([{ name := ruleC, place := p, more := false, tree := orT a b }], 0, 0) := by
  have ra : rightB a = true := right_deeper 50 100 a (by omega) ha
  have rb : rightB b = true := right_deeper 50 100 b (by omega) hb
  have sing : ∀ (c : UInt8), c ≠ 10 → No10 [c] := fun c h x hx => by rw [List.mem_singleton] at hx; subst hx; exact h
  have hm : Mid ([40] ++ brX n (printD 100 a) ++ [41] ++ ([32, 47, 32] ++ ([40] ++ printD 100 b ++ [41] ++ ([32] ++ ([40] ++ printD 100 a ++ [41]))))) (([tOpen] ++ brT n (toksD 100 a) ++ [tShut]) ++ ([{ kind := 4 }] ++ (([tOpen] ++ toksD 100 b ++ [tShut]) ++ ([tOpen] ++ toksD 100 a ++ [tShut])))) := by
    have m3 : Mid ([40] ++ printD 100 a ++ [41]) ([tOpen] ++ toksD 100 a ++ [tShut]) := by
      have := reads_bracket (print_reads 100 a ra ya) [] [] (.inl rfl) mid_nil
      rw [List.append_nil, List.append_nil] at this
      exact this
    have m2 := reads_bracket (print_reads 100 b rb yb) _ _ (ends_32 _) (mid_gap _ _ m3)
    exact reads_bracket (reads_many (print_reads 100 a ra ya) n) _ _ (ends_32 _) (mid_or _ _ m2)
  have hor : rightB (orT a b) = true := by
    have e : rightB (orT a b) = (aloneB (orT a b) && [a, .mk 5 [] 0 0 0 0 [b, a]].all (rightD 99)) := rfl
    have e2 : rightD 99 (.mk 5 [] 0 0 0 0 [b, a]) = (aloneB (.mk 5 [] 0 0 0 0 [b, a]) && [b, a].all (rightD 98)) := rfl
    have a99 := right_deeper 50 99 a (by omega) ha
    have a98 := right_deeper 50 98 a (by omega) ha
    have b98 := right_deeper 50 98 b (by omega) hb
    rw [e]
    simp only [List.all_cons, List.all_nil, Bool.and_true, a99, e2, a98, b98]
    rfl
  have na := no10_print 100 a ra
  have nb := no10_print 100 b rb
  have s40 := sing 40 (by decide)
  have s41 := sing 41 (by decide)
  have hno : No10 ([40] ++ brX n (printD 100 a) ++ [41] ++ ([32, 47, 32] ++ ([40] ++ printD 100 b ++ [41] ++ ([32] ++ ([40] ++ printD 100 a ++ [41]))))) :=
    ((s40.app (no10_many na n)).app s41).app (No10.app (by unfold No10; decide) (((s40.app nb).app s41).app ((sing 32 (by decide)).app ((s40.app na).app s41))))
  have := of_line ruleB ⟨114, [85, 108, 101], rfl, by decide, by decide⟩ (by rw [small_B]; decide) false _ _ (orT a b) hm hno (two_cont (((contT_of a ra).many n).bracket) ((contT_of b rb).bracket) ((contT_of a ra).bracket) ⟨_, rfl⟩) hor (by
    simp only [List.length_append, brX_len, List.length_cons, List.length_nil]
    show (4 + 3) + _ ≤ 65536
    omega)
  rw [small_B] at this
  exact this
end Go.Proofs.YtodenbimeojgdaaGreatDoor

/-
  The leaves of what is parsed are its tokens' names, chars, bytes and ranges, in plain terms. No conditions.
-/
namespace Go.Proofs.YtodenbimeojgdaaGreatDoor

def wants (k : Int) : Bool := k == 1 || k == 10 || k == 11 || k == 12
def wantT (t : Tk) : Tk := { t with place := 0, text := if t.kind = 1 then t.text.map smallC else t.text }
def wantL (l : List Tk) : List Tk := (l.filter fun t => wants t.kind).map wantT
theorem wantL_append (a b : List Tk) : wantL (a ++ b) = wantL a ++ wantL b := by simp [wantL]
theorem wantL_no {t : Tk} (h : wants t.kind = false) : wantL [t] = [] := by simp [wantL, h]
theorem wantL_yes {t : Tk} (h : wants t.kind = true) : wantL [t] = [wantT t] := by simp [wantL, h]
/-- of the tokens ahead of a place -/
def wantTo (l : List Tk) (at_ : Nat) : List Tk := wantL (l.take at_)
theorem wantTo_succ {l : List Tk} {at_ : Nat} {t : Tk} (h : l[at_]? = some t) : wantTo l (at_ + 1) = wantTo l at_ ++ wantL [t] := by
  obtain ⟨hl, e⟩ := List.getElem?_eq_some_iff.1 h
  unfold wantTo
  rw [List.take_succ_eq_append_getElem hl, wantL_append, e]
theorem wantTo_skip {l : List Tk} {at_ : Nat} {ks : List Int} (h : standsP l at_ ks = true) (hk : ∀ k ∈ ks, wants k = false) : wantTo l (at_ + 1) = wantTo l at_ := by
  unfold standsP at h
  cases ht : l[at_]? with
  | none => rw [ht] at h; cases h
  | some t =>
    rw [ht] at h
    rw [wantTo_succ ht, wantL_no (hk t.kind (by simpa using h)), List.append_nil]
theorem wantTo_how (l : List Tk) (at_ : Nat) : wantTo l (howP l at_).2 = wantTo l at_ := by
  unfold howP
  cases ht : l[at_]? with
  | none => rfl
  | some t =>
    simp only
    split
    · rename_i h
      show wantTo l (at_ + 1) = _
      rw [wantTo_succ ht, wantL_no (by rw [h.1]; decide), List.append_nil]
    · rfl

def leafTok (kind : Int) (text : List UInt8) (lo hi : Int) : Tk := if kind = 1 then { kind := 1, text := text } else if kind = 2 then { kind := 10, text := text } else if kind = 3 then { kind := 11, text := text } else { kind := 12, lo := lo, hi := hi }
mutual
def leavesT : Tr → List Tk
  | .mk kind text lo hi _ _ kids => if kind = 1 ∨ kind = 2 ∨ kind = 3 ∨ kind = 4 then [leafTok kind text lo hi] else leavesL kids
def leavesL : List Tr → List Tk
  | [] => []
  | t :: r => leavesT t ++ leavesL r
end
theorem leavesT_eq (t : Tr) : leavesT t = if t.kind = 1 ∨ t.kind = 2 ∨ t.kind = 3 ∨ t.kind = 4 then [leafTok t.kind t.text t.lo t.hi] else leavesL t.kids := by
  cases t
  rw [leavesT]
  rfl
theorem leavesL_append : ∀ (a b : List Tr), leavesL (a ++ b) = leavesL a ++ leavesL b := by
  intro a
  induction a with
  | nil => intro b; rw [List.nil_append, leavesL, List.nil_append]
  | cons t r ih => intro b; rw [List.cons_append, leavesL, leavesL, ih, List.append_assoc]
theorem leavesL_one (t : Tr) : leavesL [t] = leavesT t := by rw [leavesL, leavesL, List.append_nil]
theorem leaves_repeat (tm t : Tr) : leavesT (repeatP tm t) = leavesT t := by
  unfold repeatP
  split
  · rw [leavesT_eq, if_neg (by show ¬ ((7 : Int) = 1 ∨ (7 : Int) = 2 ∨ (7 : Int) = 3 ∨ (7 : Int) = 4); omega)]
    exact leavesL_one t
  · rfl
theorem leaves_together (kind : Int) (ks : List Tr) (hk : ¬ (kind = 1 ∨ kind = 2 ∨ kind = 3 ∨ kind = 4)) : leavesT (togetherP kind ks) = leavesL ks := by
  unfold togetherP
  split
  · rename_i h
    match ks, h with
    | [t], _ => exact (leavesL_one t).symm
  · rw [leavesT_eq]
    show (if kind = 1 ∨ kind = 2 ∨ kind = 3 ∨ kind = 4 then _ else leavesL ks) = _
    rw [if_neg hk]
def leavesG (g : Grp) : List Tk := leavesL g.rows ++ leavesL g.parts
def leavesS (st : List Grp) : List Tk := st.flatMap leavesG
theorem leaves_endRow (g : Grp) : leavesG (endRowP g) = leavesG g := by
  unfold leavesG endRowP
  simp only
  rw [leavesL_append, leavesL_one, leaves_together 5 _ (by omega), leavesL, List.append_nil]
theorem leaves_whole (g : Grp) : leavesT (wholeP g) = leavesG g := by
  have h1 : leavesT (togetherP 6 (endRowP g).rows) = leavesG g := by
    rw [leaves_together 6 _ (by omega)]
    have := leaves_endRow g
    unfold leavesG at this
    rw [show (endRowP g).parts = [] from rfl, leavesL, List.append_nil] at this
    exact this
  unfold wholeP mayP
  rw [leaves_repeat]
  split
  · rw [leaves_repeat, h1]
  · exact h1
theorem leaves_add (t : Tr) (g : Grp) : leavesG (addG t g) = leavesG g ++ leavesT t := by
  unfold leavesG addG
  simp only
  rw [leavesL_append, leavesL_one, List.append_assoc]
theorem onTop_full (f : Grp → Grp) {st : List Grp} (h : st ≠ []) : onTop f st ≠ [] := by
  match st, h with
  | [g], _ => exact fun e => by cases e
  | g :: k :: r, _ => exact fun e => by cases e
theorem onTop_leaves (f : Grp → Grp) (x : List Tk) (hf : ∀ g, leavesG (f g) = leavesG g ++ x) : ∀ (st : List Grp), st ≠ [] → leavesS (onTop f st) = leavesS st ++ x := by
  intro st
  induction st with
  | nil => intro h; exact absurd rfl h
  | cons g r ih =>
    intro _
    cases r with
    | nil => simp [onTop, leavesS, hf]
    | cons k r =>
      have := ih (by simp)
      rw [onTop]
      unfold leavesS at *
      rw [List.flatMap_cons, this, ← List.append_assoc, ← List.flatMap_cons]
theorem onTop_all (f : Grp → Grp) (P : Grp → Prop) (hf : ∀ g, P g → P (f g)) : ∀ (st : List Grp), (∀ g ∈ st, P g) → ∀ g ∈ onTop f st, P g := by
  intro st
  induction st with
  | nil => intro h g hg; exact h g hg
  | cons k r ih =>
    intro h g hg
    cases r with
    | nil =>
      have : g = f k := by simpa [onTop] using hg
      rw [this]
      exact hf k (h k (by simp))
    | cons j r =>
      rw [onTop] at hg
      rcases List.mem_cons.1 hg with rfl | hg
      · exact h _ (by simp)
      · exact ih (fun g hg => h g (by simp [hg])) g hg
theorem leaves_top {st : List Grp} (h : st ≠ []) : leavesS st = leavesS st.dropLast ++ leavesG (topG st) := by
  have e : st = st.dropLast ++ [topG st] := by
    unfold topG
    rw [List.getLastD_eq_getLast?, List.getLast?_eq_some_getLast h]
    exact (List.dropLast_concat_getLast h).symm
  conv => lhs; rw [e]
  simp [leavesS]
theorem top_mem {st : List Grp} (h : st ≠ []) : topG st ∈ st := by
  unfold topG
  rw [List.getLastD_eq_getLast?, List.getLast?_eq_some_getLast h]
  exact List.getLast_mem h

def CleanL (l : List Tk) : Prop := ∀ t ∈ l, Clean t
theorem leaf_want {l : List Tk} {at_ : Nat} {ks : List Int} {t : Tr} (hc : CleanL l) (hk : ∀ k ∈ ks, wants k = true) (h : leafP l at_ ks = some t) : wantTo l (at_ + 1) = wantTo l at_ ++ leavesT t := by
  unfold leafP at h
  cases ht : l[at_]? with
  | none => rw [ht] at h; cases h
  | some tk =>
    rw [ht] at h
    simp only at h
    split at h
    · rename_i hh
      injection h with h
      subst h
      have hkw := hk tk.kind (by simpa using hh.1)
      have hcl := hc tk (List.mem_of_getElem? ht)
      rw [wantTo_succ ht, wantL_yes hkw]
      congr 1
      unfold Clean at hcl
      obtain ⟨k, p, tx, mn, mx, lo, hi⟩ := tk
      simp only [wants, Bool.or_eq_true, beq_iff_eq] at hkw
      simp only at hcl
      rcases hkw with ((rfl | rfl) | rfl) | rfl
      · obtain ⟨rfl, rfl, rfl, rfl⟩ := hcl.1 (by omega)
        rw [leavesT_eq]
        rfl
      · obtain ⟨rfl, rfl, rfl, rfl⟩ := hcl.1 (by omega)
        rw [leavesT_eq]
        rfl
      · obtain ⟨rfl, rfl, rfl, rfl⟩ := hcl.1 (by omega)
        rw [leavesT_eq]
        rfl
      · obtain ⟨rfl, rfl, rfl⟩ := hcl.2.1 rfl
        rw [leavesT_eq]
        rfl
    · cases h
def ShutOk (g : Grp) : Prop := g.shut = 6 ∨ g.shut = 8 ∨ g.shut = 13
theorem openG_ok (l : List Tk) (at_ : Nat) (tm : Tr) : ShutOk (openG l at_ tm) := by
  unfold ShutOk openG
  simp only
  split <;> simp
theorem part_leaves {l : List Tk} (hc : CleanL l) (X : List Tk) : ∀ (f at_ : Nat) (tm : Tr) (st : List Grp), st ≠ [] → (∀ g ∈ st, ShutOk g) → X ++ leavesS st = wantTo l at_ → (partF l f at_ tm st).1 = true →
    (partF l f at_ tm st).2.2 ≠ [] ∧ (∀ g ∈ (partF l f at_ tm st).2.2, ShutOk g) ∧ X ++ leavesS (partF l f at_ tm st).2.2 = wantTo l (partF l f at_ tm st).2.1 := by
  intro f
  induction f with
  | zero => intro at_ tm st _ _ _ h; cases h
  | succ f ih =>
    intro at_ tm st hne hsh hX h
    rw [partF] at h ⊢
    by_cases hs : standsP l at_ [5, 7] = true
    · rw [if_pos hs] at h ⊢
      refine ih _ _ _ (by simp) (fun g hg => ?_) ?_ h
      · rcases List.mem_append.1 hg with hg | hg
        · exact hsh g hg
        · rw [List.mem_singleton] at hg; subst hg; exact openG_ok _ _ _
      · have e : leavesS (st ++ [openG l at_ tm]) = leavesS st := by
          simp [leavesS, leavesG, openG, leavesL]
        rw [e, hX, wantTo_how, wantTo_skip hs (by decide)]
    · rw [if_neg hs] at h ⊢
      cases hl : leafP l at_ [1, 10, 11, 12] with
      | none => rw [hl] at h; cases h
      | some t =>
        simp only
        refine ⟨onTop_full _ hne, onTop_all (addG _) ShutOk (fun g hg => hg) _ hsh, ?_⟩
        rw [onTop_leaves _ (leavesT t) (fun g => by rw [leaves_add, leaves_repeat]) st hne, ← List.append_assoc, hX, leaf_want hc (by decide) hl]
theorem shut_leaves {l : List Tk} (X : List Tk) : ∀ (f at_ : Nat) (st : List Grp), st ≠ [] → (∀ g ∈ st, ShutOk g) → X ++ leavesS st = wantTo l at_ →
    (∀ t at2 s2, shutF l f at_ st = (some t, at2, s2) → X ++ leavesT t = wantTo l at2) ∧
    (∀ at2 s2, shutF l f at_ st = (none, at2, s2) → s2 ≠ [] ∧ (∀ g ∈ s2, ShutOk g) ∧ X ++ leavesS s2 = wantTo l at2) := by
  intro f
  induction f with
  | zero =>
    intro at_ st hne hsh hX
    refine ⟨(fun t at2 s2 h => by cases h), fun at2 s2 h => ?_⟩
    simp only [shutF, Prod.mk.injEq, true_and] at h
    obtain ⟨rfl, rfl⟩ := h
    exact ⟨hne, hsh, hX⟩
  | succ f ih =>
    intro at_ st hne hsh hX
    rw [shutF]
    by_cases hs : standsP l at_ [(topG st).shut] = true
    · rw [if_pos hs]
      have hsk : wantTo l (at_ + 1) = wantTo l at_ := wantTo_skip hs (by
        intro k hk
        rw [List.mem_singleton] at hk
        subst hk
        rcases hsh _ (top_mem hne) with h | h | h <;> rw [h] <;> decide)
      by_cases hd : st.dropLast.length = 0
      · rw [if_pos hd]
        refine ⟨fun t at2 s2 h => ?_, (fun at2 s2 h => by cases h)⟩
        simp only [Prod.mk.injEq, Option.some.injEq] at h
        obtain ⟨rfl, rfl, _⟩ := h
        have hnil : st.dropLast = [] := List.length_eq_zero_iff.1 hd
        rw [hsk, ← hX, leaves_top hne, hnil, leaves_whole]
        rfl
      · rw [if_neg hd]
        have hdn : st.dropLast ≠ [] := fun e => hd (by rw [e]; rfl)
        refine ih (at_ + 1) _ (onTop_full _ hdn) (onTop_all (addG _) ShutOk (fun g hg => hg) _ (fun g hg => hsh g (List.dropLast_subset st hg))) ?_
        rw [onTop_leaves _ (leavesG (topG st)) (fun g => by rw [leaves_add, leaves_whole]) _ hdn, hsk, ← hX, leaves_top hne]
    · rw [if_neg hs]
      refine ⟨(fun t at2 s2 h => by cases h), fun at2 s2 h => ?_⟩
      simp only [Prod.mk.injEq, true_and] at h
      obtain ⟨rfl, rfl⟩ := h
      exact ⟨hne, hsh, hX⟩
theorem choices_leaves {l : List Tk} (hc : CleanL l) (X : List Tk) : ∀ (f at_ : Nat) (st : List Grp), st ≠ [] → (∀ g ∈ st, ShutOk g) → X ++ leavesS st = wantTo l at_ → ∀ t at2, choicesF l f at_ st = (some t, at2) → X ++ leavesT t = wantTo l at2 := by
  intro f
  induction f with
  | zero => intro at_ st _ _ _ t at2 h; cases h
  | succ f ih =>
    intro at_ st hne hsh hX t at2 h
    rw [choicesF] at h
    by_cases hp : (partP l at_ st).1 = true
    · rw [if_pos hp] at h
      have h1 := part_leaves hc X (l.length + 1) (howP l at_).2 (howP l at_).1 st hne hsh (by rw [wantTo_how, hX]) hp
      change (partP l at_ st).2.2 ≠ [] ∧ (∀ g ∈ (partP l at_ st).2.2, ShutOk g) ∧ X ++ leavesS (partP l at_ st).2.2 = wantTo l (partP l at_ st).2.1 at h1
      have h2 := shut_leaves (l := l) X (l.length + 1) (partP l at_ st).2.1 (partP l at_ st).2.2 h1.1 h1.2.1 h1.2.2
      change (∀ t at2 s2, shutP l (partP l at_ st).2.1 (partP l at_ st).2.2 = (some t, at2, s2) → X ++ leavesT t = wantTo l at2) ∧ (∀ at2 s2, shutP l (partP l at_ st).2.1 (partP l at_ st).2.2 = (none, at2, s2) → s2 ≠ [] ∧ (∀ g ∈ s2, ShutOk g) ∧ X ++ leavesS s2 = wantTo l at2) at h2
      generalize shutP l (partP l at_ st).2.1 (partP l at_ st).2.2 = SP at *
      obtain ⟨o, a, s⟩ := SP
      cases o with
      | some u =>
        simp only [Prod.mk.injEq, Option.some.injEq] at h
        obtain ⟨rfl, rfl⟩ := h
        exact h2.1 _ _ _ rfl
      | none =>
        obtain ⟨k1, k2, k3⟩ := h2.2 _ _ rfl
        simp only at h
        split at h
        · rename_i hs
          refine ih (a + 1) _ (onTop_full _ k1) (onTop_all endRowP ShutOk (fun g hg => hg) _ k2) ?_ t at2 h
          rw [onTop_leaves endRowP [] (fun g => by rw [leaves_endRow, List.append_nil]) s k1, List.append_nil, k3, wantTo_skip hs (by decide)]
        · exact ih a s k1 k2 k3 t at2 h
    · rw [if_neg hp] at h
      cases h

/-- what a rule is of -/
def nameTok (n : List UInt8) : Tk := { kind := 1, text := n }
def ruleLeaves (r : Rl) : List Tk := nameTok r.name :: leavesT r.tree
/-- what is known of a rule by its first token -/
def RuleOf (l : List Tk) (r : Rl) : Prop := ∃ t, t ∈ l ∧ t.kind = 1 ∧ r.place = t.place ∧ r.name = t.text.map smallC ∧ nameB r.name = true
theorem place_at {l : List Tk} {at_ : Nat} {t : Tk} (h : l[at_]? = some t) : placeP l at_ = t.place := by
  obtain ⟨hl, e⟩ := List.getElem?_eq_some_iff.1 h
  unfold placeP
  rw [show min at_ (l.length - 1) = at_ from by omega, List.getD_eq_getElem?_getD, h]
  rfl
theorem place_in {l : List Tk} (h : l ≠ []) (at_ : Nat) : ∃ t ∈ l, placeP l at_ = t.place := by
  have hl : 0 < l.length := List.length_pos_iff.2 h
  have hm : min at_ (l.length - 1) < l.length := by omega
  refine ⟨l[min at_ (l.length - 1)], List.getElem_mem hm, ?_⟩
  unfold placeP
  rw [List.getD_eq_getElem?_getD, List.getElem?_eq_getElem hm]
  rfl
theorem leaf_name {l : List Tk} {at_ : Nat} {t : Tr} (h : leafP l at_ [1] = some t) : ∃ tk, l[at_]? = some tk ∧ tk.kind = 1 ∧ t = .mk 1 (tk.text.map smallC) 0 0 0 0 [] ∧ nameB (tk.text.map smallC) = true := by
  unfold leafP at h
  cases ht : l[at_]? with
  | none => rw [ht] at h; cases h
  | some tk =>
    rw [ht] at h
    simp only at h
    split at h
    · rename_i hh
      injection h with h
      have hk : tk.kind = 1 := by simpa using hh.1
      have hm : meaningP tk = .mk 1 (tk.text.map smallC) 0 0 0 0 [] := by
        unfold meaningP leafKind
        simp [hk]
      refine ⟨tk, rfl, hk, by rw [← h, hm], ?_⟩
      have hr := hh.2
      rw [hm] at hr
      have e : rightB (.mk 1 (tk.text.map smallC) 0 0 0 0 []) = (aloneB (.mk 1 (tk.text.map smallC) 0 0 0 0 []) && true) := rfl
      rw [e, Bool.and_true] at hr
      have e2 : aloneB (.mk 1 (tk.text.map smallC) 0 0 0 0 []) = (nameB (tk.text.map smallC) && noRangeB (.mk 1 (tk.text.map smallC) 0 0 0 0 []) && noTimesB (.mk 1 (tk.text.map smallC) 0 0 0 0 []) && true) := rfl
      rw [e2, Bool.and_eq_true, Bool.and_eq_true, Bool.and_eq_true] at hr
      exact hr.1.1.1
    · cases h
theorem rule_leaves {l : List Tk} (hc : CleanL l) {at_ at2 : Nat} {r : Rl} (h : ruleP l at_ = (some r, at2)) : wantTo l at2 = wantTo l at_ ++ ruleLeaves r ∧ RuleOf l r := by
  unfold ruleP at h
  cases hl : leafP l at_ [1] with
  | none => rw [hl] at h; cases h
  | some nm =>
    rw [hl] at h
    simp only at h
    split at h
    · rename_i hs
      cases hcp : choicesP l (at_ + 2) with
      | mk o a =>
        rw [hcp] at h
        cases o with
        | none => cases h
        | some t =>
          simp only [Prod.mk.injEq, Option.some.injEq] at h
          obtain ⟨rfl, rfl⟩ := h
          obtain ⟨tk, htk, hk, rfl, hn⟩ := leaf_name hl
          refine ⟨?_, ⟨tk, List.mem_of_getElem? htk, hk, place_at htk, rfl, hn⟩⟩
          have h1 := choices_leaves hc (wantTo l (at_ + 2)) (l.length + 1) (at_ + 2) [firstG] (by simp) (fun g hg => by rw [List.mem_singleton] at hg; subst hg; exact .inr (.inr rfl)) (by simp [leavesS, leavesG, firstG, leavesL]) t a hcp
          rw [← h1, show wantTo l (at_ + 2) = wantTo l (at_ + 1) from wantTo_skip hs (by decide), leaf_want hc (by decide) hl, leavesT_eq]
          show wantTo l at_ ++ [nameTok (tk.text.map smallC)] ++ leavesT t = wantTo l at_ ++ (nameTok (tk.text.map smallC) :: leavesT t)
          rw [List.append_assoc]
          rfl
    · cases h
theorem rule_place {l : List Tk} {at_ at2 : Nat} {r : Rl} (h : ruleP l at_ = (some r, at2)) : r.place = placeP l at_ := by
  unfold ruleP at h
  cases hl : leafP l at_ [1] with
  | none => rw [hl] at h; cases h
  | some nm =>
    rw [hl] at h
    simp only at h
    split at h
    · cases hcp : choicesP l (at_ + 2) with
      | mk o a =>
        rw [hcp] at h
        cases o with
        | none => cases h
        | some t =>
          simp only [Prod.mk.injEq, Option.some.injEq] at h
          obtain ⟨rfl, rfl⟩ := h
          rfl
    · cases h
def RuleFine (l : List Tk) (r : Rl) : Prop := rightB r.tree = true ∧ RuleOf l r
theorem parse_leaves {l : List Tk} (hc : CleanL l) : ∀ (f at_ : Nat) (acc : List Rl), l.length < f + at_ → acc.flatMap ruleLeaves = wantTo l at_ → (∀ r ∈ acc, RuleFine l r) →
    ((parseF l f at_ acc).2.2 = 0 → (parseF l f at_ acc).1.flatMap ruleLeaves = wantL l ∧ (parseF l f at_ acc).2.1 = 0 ∧ ∀ r ∈ (parseF l f at_ acc).1, RuleFine l r) ∧
    ((parseF l f at_ acc).2.2 ≠ 0 → (parseF l f at_ acc).1 = [] ∧ ∃ t ∈ l, (parseF l f at_ acc).2.1 = t.place) := by
  intro f
  induction f with
  | zero =>
    intro at_ acc hf hX hr
    refine ⟨fun _ => ⟨?_, rfl, hr⟩, fun h => absurd rfl h⟩
    show acc.flatMap ruleLeaves = _
    rw [hX, wantTo, List.take_of_length_le (by omega)]
  | succ f ih =>
    intro at_ acc hf hX hr
    by_cases hlt : l.length ≤ at_
    · rw [parseF_end hlt]
      refine ⟨fun _ => ⟨?_, rfl, hr⟩, fun h => absurd rfl h⟩
      show acc.flatMap ruleLeaves = _
      rw [hX, wantTo, List.take_of_length_le hlt]
    · have hne : l ≠ [] := fun e => hlt (by rw [e]; exact Nat.zero_le _)
      cases hrp : ruleP l at_ with
      | mk o at2 =>
        cases o with
        | none =>
          rw [parseF_none (by omega) hrp]
          exact ⟨(fun h => by cases h), fun _ => ⟨rfl, place_in hne at2⟩⟩
        | some x =>
          rw [parseF_some (by omega) hrp]
          obtain ⟨h1, h2⟩ := rule_leaves hc hrp
          have h3 := ruleP_adv hrp
          split
          · rename_i hright
            refine ih at2 (acc ++ [x]) (by omega) ?_ (fun r hm => ?_)
            · rw [List.flatMap_append, hX, h1]
              simp
            · rcases List.mem_append.1 hm with hm | hm
              · exact hr r hm
              · rw [List.mem_singleton] at hm; subst hm; exact ⟨hright, h2⟩
          · refine ⟨(fun h => by cases h), fun _ => ⟨rfl, ?_⟩⟩
            obtain ⟨t, ht, e⟩ := place_in hne at_
            exact ⟨t, ht, by rw [← e]; exact rule_place hrp⟩
theorem parseP_leaves {l : List Tk} (hc : CleanL l) :
    ((parseP l).2.2 = 0 → (parseP l).1.flatMap ruleLeaves = wantL l ∧ (parseP l).2.1 = 0 ∧ ∀ r ∈ (parseP l).1, RuleFine l r) ∧
    ((parseP l).2.2 ≠ 0 → (parseP l).1 = [] ∧ ∃ t ∈ l, (parseP l).2.1 = t.place) :=
  parse_leaves hc (l.length + 1) 0 [] (by omega) (by simp [wantTo, wantL]) (fun r hr => by cases hr)
end Go.Proofs.YtodenbimeojgdaaGreatDoor

/-
  The contract of frankinglaw02's prints, where the text has one rule, whose text is the one that is asked. Conditions: the tables abnf.leaves and the library's powers of ten lie where they do.
-/
namespace Go.Proofs.YtodenbimeojgdaaGreatDoor
open Go.RowKit

def byteB : Nat → Tr → Bool
  | 0, _ => true
  | d + 1, t => decide (0 ≤ t.lo ∧ t.lo ≤ 255) && decide (0 ≤ t.hi ∧ t.hi ≤ 255) && t.kids.all (byteB d)
def textB : Nat → Tr → Bool
  | 0, _ => true
  | d + 1, t => decide (t.text.length ≤ maxLen) && t.kids.all (textB d)
theorem byteD_of : ∀ (d : Nat) (t : Tr), byteB d t = true → byteD d t := by
  intro d
  induction d with
  | zero => intro t _; exact trivial
  | succ d ih =>
    intro t h
    have e : byteB (d + 1) t = (decide (0 ≤ t.lo ∧ t.lo ≤ 255) && decide (0 ≤ t.hi ∧ t.hi ≤ 255) && t.kids.all (byteB d)) := rfl
    rw [e, Bool.and_eq_true, Bool.and_eq_true, List.all_eq_true] at h
    exact ⟨of_decide_eq_true h.1.1, of_decide_eq_true h.1.2, fun k hk => ih k (h.2 k hk)⟩
theorem textD_of : ∀ (d : Nat) (t : Tr), textB d t = true → textD d t := by
  intro d
  induction d with
  | zero => intro t _; exact trivial
  | succ d ih =>
    intro t h
    have e : textB (d + 1) t = (decide (t.text.length ≤ maxLen) && t.kids.all (textB d)) := rfl
    rw [e, Bool.and_eq_true, List.all_eq_true] at h
    exact ⟨of_decide_eq_true h.1, fun k hk => ih k (h.2 k hk)⟩

set_option maxRecDepth 100000 in
set_option maxHeartbeats 2000000 in
theorem prints_true (l want : List UInt8) (x : Rl) (hcount : (lexP l).1.length ≤ 200000) (hshort : Short (lexP l).1) (hof : ofP l = ([x], 0, 0)) (hpr : printP x.name x.more x.tree = (want, 0)) (hy : byteD 100 x.tree) (htx : textD 100 x.tree) (hn : x.name.length ≤ maxLen) (hlen : want.length ≤ 140737488355328) (w : World) (hlv : LeavesAt w) (hpw : PowAt w) :
    Calls Tryz.prog 24 #[.string (bs l), .string (bs want)] w fun e w' => e = .returned (.bool true) ∧ Below w.heap.size w w' := by
  have HOF := Of_any l hcount hshort w hlv
  rw [hof] at HOF
  have HO := Lib.hid HOF
  have HPW := Lib.hid hpw
  have HPRI : Hid (∀ (sl : Value) (W : World), KidsAt W (· < W.heap.size) x.tree.kids sl → PowAt W → Calls Tryz.prog 15 #[.agg #[.string (bs x.name), .int .i64 x.place, .bool x.more, .int .u8 x.tree.kind, .string (bs x.tree.text), .int .u8 x.tree.lo, .int .u8 x.tree.hi, .int .i64 x.tree.mn, .int .i64 x.tree.mx, sl]] W fun e w' => e = .returned (.tuple #[.string (bs want), .int .i64 0]) ∧ Below W.heap.size W w') := fun sl W hk hp => by
    have := Print_any x sl W hk hy htx hp hn (by rw [hpr]; exact hlen)
    rw [hpr] at this
    exact this
  have hpl := hpw.lt
  clear HOF hlv hcount hshort hof hpr hy htx hn hlen hpw
  go_enter Tryz.func24, Tryz.ntmps24
  go_wp2_with (go_at_call 19; refine HO.out.mono ?_)
  rintro e w1 ⟨v, rfl, hr, hb⟩
  obtain ⟨⟨ps, hps, hown, hkids⟩⟩ := hr
  obtain ⟨sl, rfl⟩ : ∃ sl, ps = [(x, sl)] := by
    match ps, hps with
    | [(y, sl)], h =>
      have : y = x := by simpa using h
      subst this
      exact ⟨sl, rfl⟩
  have hrow := RRow.of_own hown hkids
  obtain ⟨A, c, rfl, _⟩ := hrow.row
  obtain ⟨g, off, rfl, hg, a0, a1, a2, a3, a4, a5, a6, a7, a8, a9, ka⟩ := hrow.at_ (k := 0) (p := (x, sl)) rfl
  simp only [Nat.zero_mul, Nat.add_zero] at a0 a1 a2 a3 a4 a5 a6 a7 a8 a9 ka
  have HPR := Lib.hid (HPRI.out sl w1 ka (HPW.out.below hb hpl))
  have HB := Lib.hid hb
  obtain ⟨kp, kc, rfl, _⟩ := ka.form
  clear hown hb hps hkids hrow ka HPRI HO
  go_wp2_with (go_at_call 15; refine HPR.out.mono ?_)
  rintro e w2 ⟨rfl, hb2⟩
  have HEND := Lib.hid (HB.out.trans (hb2.mono HB.out.size))
  clear hb2
  go_wp2
  go_ret
  exact ⟨rfl, HEND.out⟩
end Go.Proofs.YtodenbimeojgdaaGreatDoor

/-
  Layer 2's examples in plain terms. No conditions.
-/
namespace Go.Proofs.YtodenbimeojgdaaGreatDoor
open Go.RowKit

def treeb : Tr := .mk 1 [98] 0 0 0 0 []
def treec : Tr := .mk 1 [99] 0 0 0 0 []
def treed : Tr := .mk 1 [100] 0 0 0 0 []
def treex : Tr := .mk 5 [] 0 0 0 0 [.mk 2 [120] 0 0 0 0 [], .mk 3 [65] 0 0 0 0 []]
def firstT : Tr := .mk 6 [] 0 0 0 0 [.mk 7 [] 0 0 1 3 [treeb], .mk 7 [] 0 0 0 1 [treex]]
def thirdT : Tr := .mk 5 [] 0 0 0 0 [.mk 6 [] 0 0 0 0 [treeb, treec], treed]
def wakeA : List UInt8 := [97, 32, 61, 32, 49, 42, 51, 98, 32, 47, 32, 91, 34, 120, 34, 32, 37, 120, 52, 49, 93, 10, 97, 32, 61, 32, 40, 98, 41, 10, 65, 32, 61, 32, 40, 40, 66, 32, 47, 32, 99, 41, 32, 100, 41, 10]
def wakeP0 : List UInt8 := [97, 32, 61, 32, 49, 42, 51, 98, 32, 47, 32, 91, 34, 120, 34, 32, 37, 120, 52, 49, 93]
def wakeQ0 : List UInt8 := [97, 32, 61, 32, 49, 42, 51, 98, 32, 47, 32, 42, 49, 40, 34, 120, 34, 32, 37, 120, 52, 49, 41]
def wakeP1 : List UInt8 := [97, 32, 61, 32, 40, 40, 98, 32, 47, 32, 99, 41, 32, 100, 41]
def wakeQ1 : List UInt8 := [97, 32, 61, 32, 40, 98, 32, 47, 32, 99, 41, 32, 100]
def wakeP2 : List UInt8 := [65, 32, 61, 32, 66]
def wakeQ2 : List UInt8 := [97, 32, 61, 32, 98]
def wakeF0 : List UInt8 := [97, 32, 61, 32]
def wakeF1 : List UInt8 := [97, 32, 61, 32, 40, 98]
def wakeF2 : List UInt8 := [97, 32, 98]

theorem short_of (toks : List Tk) (h : toks.all (fun t => decide (t.text.length ≤ 65536)) = true) : Short toks := fun _ t ht => of_decide_eq_true (List.all_eq_true.1 h t (List.mem_of_getElem? ht))
theorem few_of (toks : List Tk) (h : decide (toks.length ≤ 200000) = true) : toks.length ≤ 200000 := of_decide_eq_true h

theorem of_A : ofP wakeA = ([{ name := [97], place := 0, more := false, tree := firstT }, { name := [97], place := 22, more := false, tree := treeb }, { name := [97], place := 30, more := false, tree := thirdT }], 0, 0) := by kernel_rfl
theorem of_P0 : ofP wakeP0 = ([{ name := [97], place := 0, more := false, tree := firstT }], 0, 0) := by kernel_rfl
theorem of_P1 : ofP wakeP1 = ([{ name := [97], place := 0, more := false, tree := thirdT }], 0, 0) := by kernel_rfl
theorem of_P2 : ofP wakeP2 = ([{ name := [97], place := 0, more := false, tree := treeb }], 0, 0) := by kernel_rfl
theorem print_P0 : printP [97] false firstT = (wakeQ0, 0) := by kernel_rfl
theorem print_P1 : printP [97] false thirdT = (wakeQ1, 0) := by kernel_rfl
theorem print_P2 : printP [97] false treeb = (wakeQ2, 0) := by kernel_rfl
theorem of_F0 : ofP wakeF0 = ([], 4, 20) := by kernel_rfl
theorem of_F1 : ofP wakeF1 = ([], 6, 20) := by kernel_rfl
theorem of_F2 : ofP wakeF2 = ([], 2, 20) := by kernel_rfl
theorem few_A : (lexP wakeA).1.length ≤ 200000 := few_of _ (by kernel_rfl)
theorem short_A : Short (lexP wakeA).1 := short_of _ (by kernel_rfl)
theorem few_P0 : (lexP wakeP0).1.length ≤ 200000 := few_of _ (by kernel_rfl)
theorem short_P0 : Short (lexP wakeP0).1 := short_of _ (by kernel_rfl)
theorem few_P1 : (lexP wakeP1).1.length ≤ 200000 := few_of _ (by kernel_rfl)
theorem short_P1 : Short (lexP wakeP1).1 := short_of _ (by kernel_rfl)
theorem few_P2 : (lexP wakeP2).1.length ≤ 200000 := few_of _ (by kernel_rfl)
theorem short_P2 : Short (lexP wakeP2).1 := short_of _ (by kernel_rfl)
theorem few_F0 : (lexP wakeF0).1.length ≤ 200000 := few_of _ (by kernel_rfl)
theorem short_F0 : Short (lexP wakeF0).1 := short_of _ (by kernel_rfl)
theorem few_F1 : (lexP wakeF1).1.length ≤ 200000 := few_of _ (by kernel_rfl)
theorem short_F1 : Short (lexP wakeF1).1 := short_of _ (by kernel_rfl)
theorem few_F2 : (lexP wakeF2).1.length ≤ 200000 := few_of _ (by kernel_rfl)
theorem short_F2 : Short (lexP wakeF2).1 := short_of _ (by kernel_rfl)
theorem byte_firstT : byteD 100 firstT := byteD_of _ _ (by kernel_rfl)
theorem text_firstT : textD 100 firstT := textD_of _ _ (by kernel_rfl)
theorem byte_thirdT : byteD 100 thirdT := byteD_of _ _ (by kernel_rfl)
theorem text_thirdT : textD 100 thirdT := textD_of _ _ (by kernel_rfl)
theorem byte_treeb : byteD 100 treeb := byteD_of _ _ (by kernel_rfl)
theorem text_treeb : textD 100 treeb := textD_of _ _ (by kernel_rfl)
end Go.Proofs.YtodenbimeojgdaaGreatDoor

/-
  Layer 2's examples in memory: the trees that awake builds, kids and rules in rows that are written out. No conditions.
-/
namespace Go.Proofs.YtodenbimeojgdaaGreatDoor
open Go.RowKit

theorem KidsAt.single {w : World} {S : Nat → Prop} (k : Tr) (s : Value) (b : Nat) (hS : S b) (ht : k.text.length ≤ maxLen) (hB : Blk w b 25 (headCells k s).toArray) (hk : KidsAt w S k.kids s) : KidsAt w S [k] (.slice (some ⟨b, 0, none⟩) 1 1) := by
  refine KidsAt.row [k] b 0 1 (fun _ => s) hS hB.lt (by simp) (by simp) (by simp [maxLen]) ?_ ?_ ?_
  · intro i h
    have : i = 0 := by simpa using h
    subst this
    exact ht
  · intro i h j u hu
    have : i = 0 := by simpa using h
    subst this
    rw [show 0 + 0 * 7 + j = j from by omega, hB.cell j]
    simpa using hu
  · intro i h
    have : i = 0 := by simpa using h
    subst this
    exact hk
theorem KidsAt.two {w : World} {S : Nat → Prop} (k1 k2 : Tr) (s1 s2 : Value) (b : Nat) (hS : S b) (ht1 : k1.text.length ≤ maxLen) (ht2 : k2.text.length ≤ maxLen) (hB : Blk w b 25 (headCells k1 s1 ++ headCells k2 s2).toArray) (hk1 : KidsAt w S k1.kids s1) (hk2 : KidsAt w S k2.kids s2) : KidsAt w S [k1, k2] (.slice (some ⟨b, 0, none⟩) 2 2) := by
  refine KidsAt.row [k1, k2] b 0 2 (fun i => if i = 0 then s1 else s2) hS hB.lt (by simp) (by simp) (by simp [maxLen]) ?_ ?_ ?_
  · intro i h
    match i, h with
    | 0, _ => exact ht1
    | 1, _ => exact ht2
  · intro i h j u hu
    match i, h with
    | 0, _ =>
      have hj : j < 7 := (List.getElem?_eq_some_iff.1 hu).1
      rw [show 0 + 0 * 7 + j = j from by omega, hB.cell j]
      show (headCells k1 s1 ++ headCells k2 s2).toArray[j]? = some u
      rw [List.getElem?_toArray, List.getElem?_append_left (by rw [headCells_len]; exact hj)]
      exact hu
    | 1, _ =>
      rw [show 0 + 1 * 7 + j = 7 + j from by omega, hB.cell (7 + j)]
      show (headCells k1 s1 ++ headCells k2 s2).toArray[7 + j]? = some u
      rw [List.getElem?_toArray, List.getElem?_append_right (by rw [headCells_len]; omega), headCells_len, Nat.add_sub_cancel_left]
      exact hu
  · intro i h
    match i, h with
    | 0, _ => exact hk1
    | 1, _ => exact hk2
theorem RRow.lit {w : World} {g n : Nat} {cs : Array Value} (ys : Rrow) (h : Blk w g 27 cs) (hcs : cs.toList = flatR ys) (hn : n = ys.length) (c : Nat) (hk : RKids w (· < w.heap.size) ys) : RRow w (.slice (some ⟨g, 0, none⟩) n c) ys := by
  subst hn
  refine ⟨⟨_, _, rfl, fun _ => ⟨g, 0, rfl, h.lt, fun j u hu => ?_⟩⟩, hk⟩
  rw [Nat.zero_add, h.cell j, ← hu, ← hcs]
  simp

/-- the world behind awake's trees -/
def wakeW (w : World) : World := (((((((((((w.alloc (.cells #[.int .u8 1, .string ⟨#[98]⟩, .int .u8 0, .int .u8 0, .int .i64 0, .int .i64 0, .slice none 0 0] 25)).alloc (.cells #[.int .u8 1, .string ⟨#[100]⟩, .int .u8 0, .int .u8 0, .int .i64 0, .int .i64 0, .slice none 0 0] 25)).alloc (.cells #[.int .u8 2, .string ⟨#[120]⟩, .int .u8 0, .int .u8 0, .int .i64 0, .int .i64 0, .slice none 0 0, .int .u8 3, .string ⟨#[65]⟩, .int .u8 0, .int .u8 0, .int .i64 0, .int .i64 0, .slice none 0 0] 25)).alloc (.cells #[.int .u8 5, .string ⟨#[]⟩, .int .u8 0, .int .u8 0, .int .i64 0, .int .i64 0, .slice (some ⟨w.heap.size + 1 + 1, 0, none⟩) 2 2] 25)).alloc (.cells #[.int .u8 1, .string ⟨#[98]⟩, .int .u8 0, .int .u8 0, .int .i64 0, .int .i64 0, .slice none 0 0] 25)).alloc (.cells #[.int .u8 5, .string ⟨#[]⟩, .int .u8 0, .int .u8 0, .int .i64 0, .int .i64 0, .slice (some ⟨w.heap.size + 1 + 1, 0, none⟩) 2 2] 25)).alloc (.cells #[.int .u8 7, .string ⟨#[]⟩, .int .u8 0, .int .u8 0, .int .i64 1, .int .i64 3, .slice (some ⟨w.heap.size + 1 + 1 + 1 + 1, 0, none⟩) 1 1, .int .u8 7, .string ⟨#[]⟩, .int .u8 0, .int .u8 0, .int .i64 0, .int .i64 1, .slice (some ⟨w.heap.size + 1 + 1 + 1 + 1 + 1, 0, none⟩) 1 1] 25)).alloc (.cells #[.int .u8 6, .string ⟨#[]⟩, .int .u8 0, .int .u8 0, .int .i64 0, .int .i64 0, .slice (some ⟨w.heap.size + 1 + 1 + 1 + 1 + 1 + 1, 0, none⟩) 2 2] 25)).alloc (.cells #[.int .u8 1, .string ⟨#[98]⟩, .int .u8 0, .int .u8 0, .int .i64 0, .int .i64 0, .slice none 0 0, .int .u8 1, .string ⟨#[99]⟩, .int .u8 0, .int .u8 0, .int .i64 0, .int .i64 0, .slice none 0 0] 25)).alloc (.cells #[.int .u8 6, .string ⟨#[]⟩, .int .u8 0, .int .u8 0, .int .i64 0, .int .i64 0, .slice (some ⟨w.heap.size + 1 + 1 + 1 + 1 + 1 + 1 + 1 + 1, 0, none⟩) 2 2, .int .u8 1, .string ⟨#[100]⟩, .int .u8 0, .int .u8 0, .int .i64 0, .int .i64 0, .slice none 0 0] 25)).alloc (.cells #[.int .u8 5, .string ⟨#[]⟩, .int .u8 0, .int .u8 0, .int .i64 0, .int .i64 0, .slice (some ⟨w.heap.size + 1 + 1 + 1 + 1 + 1 + 1 + 1 + 1 + 1, 0, none⟩) 2 2] 25))
theorem wake_below (w : World) : Below w.heap.size w (wakeW w) := by
  unfold wakeW
  iterate 11 refine Below.alloc ?_ (by simp; try omega) _
  exact Below.refl _ _
theorem wake_blk0 (w : World) : Blk (wakeW w) (w.heap.size) 25 #[.int .u8 1, .string ⟨#[98]⟩, .int .u8 0, .int .u8 0, .int .i64 0, .int .i64 0, .slice none 0 0] := by
  unfold wakeW
  iterate 10 refine Blk.alloc ?_ _
  exact Blk.new_at _ _ _ _ (by simp)
theorem wake_blk1 (w : World) : Blk (wakeW w) (w.heap.size + 1) 25 #[.int .u8 1, .string ⟨#[100]⟩, .int .u8 0, .int .u8 0, .int .i64 0, .int .i64 0, .slice none 0 0] := by
  unfold wakeW
  iterate 9 refine Blk.alloc ?_ _
  exact Blk.new_at _ _ _ _ (by simp)
theorem wake_blk2 (w : World) : Blk (wakeW w) (w.heap.size + 1 + 1) 25 #[.int .u8 2, .string ⟨#[120]⟩, .int .u8 0, .int .u8 0, .int .i64 0, .int .i64 0, .slice none 0 0, .int .u8 3, .string ⟨#[65]⟩, .int .u8 0, .int .u8 0, .int .i64 0, .int .i64 0, .slice none 0 0] := by
  unfold wakeW
  iterate 8 refine Blk.alloc ?_ _
  exact Blk.new_at _ _ _ _ (by simp)
theorem wake_blk3 (w : World) : Blk (wakeW w) (w.heap.size + 1 + 1 + 1) 25 #[.int .u8 5, .string ⟨#[]⟩, .int .u8 0, .int .u8 0, .int .i64 0, .int .i64 0, .slice (some ⟨w.heap.size + 1 + 1, 0, none⟩) 2 2] := by
  unfold wakeW
  iterate 7 refine Blk.alloc ?_ _
  exact Blk.new_at _ _ _ _ (by simp)
theorem wake_blk4 (w : World) : Blk (wakeW w) (w.heap.size + 1 + 1 + 1 + 1) 25 #[.int .u8 1, .string ⟨#[98]⟩, .int .u8 0, .int .u8 0, .int .i64 0, .int .i64 0, .slice none 0 0] := by
  unfold wakeW
  iterate 6 refine Blk.alloc ?_ _
  exact Blk.new_at _ _ _ _ (by simp)
theorem wake_blk5 (w : World) : Blk (wakeW w) (w.heap.size + 1 + 1 + 1 + 1 + 1) 25 #[.int .u8 5, .string ⟨#[]⟩, .int .u8 0, .int .u8 0, .int .i64 0, .int .i64 0, .slice (some ⟨w.heap.size + 1 + 1, 0, none⟩) 2 2] := by
  unfold wakeW
  iterate 5 refine Blk.alloc ?_ _
  exact Blk.new_at _ _ _ _ (by simp)
theorem wake_blk6 (w : World) : Blk (wakeW w) (w.heap.size + 1 + 1 + 1 + 1 + 1 + 1) 25 #[.int .u8 7, .string ⟨#[]⟩, .int .u8 0, .int .u8 0, .int .i64 1, .int .i64 3, .slice (some ⟨w.heap.size + 1 + 1 + 1 + 1, 0, none⟩) 1 1, .int .u8 7, .string ⟨#[]⟩, .int .u8 0, .int .u8 0, .int .i64 0, .int .i64 1, .slice (some ⟨w.heap.size + 1 + 1 + 1 + 1 + 1, 0, none⟩) 1 1] := by
  unfold wakeW
  iterate 4 refine Blk.alloc ?_ _
  exact Blk.new_at _ _ _ _ (by simp)
theorem wake_blk7 (w : World) : Blk (wakeW w) (w.heap.size + 1 + 1 + 1 + 1 + 1 + 1 + 1) 25 #[.int .u8 6, .string ⟨#[]⟩, .int .u8 0, .int .u8 0, .int .i64 0, .int .i64 0, .slice (some ⟨w.heap.size + 1 + 1 + 1 + 1 + 1 + 1, 0, none⟩) 2 2] := by
  unfold wakeW
  iterate 3 refine Blk.alloc ?_ _
  exact Blk.new_at _ _ _ _ (by simp)
theorem wake_blk8 (w : World) : Blk (wakeW w) (w.heap.size + 1 + 1 + 1 + 1 + 1 + 1 + 1 + 1) 25 #[.int .u8 1, .string ⟨#[98]⟩, .int .u8 0, .int .u8 0, .int .i64 0, .int .i64 0, .slice none 0 0, .int .u8 1, .string ⟨#[99]⟩, .int .u8 0, .int .u8 0, .int .i64 0, .int .i64 0, .slice none 0 0] := by
  unfold wakeW
  iterate 2 refine Blk.alloc ?_ _
  exact Blk.new_at _ _ _ _ (by simp)
theorem wake_blk9 (w : World) : Blk (wakeW w) (w.heap.size + 1 + 1 + 1 + 1 + 1 + 1 + 1 + 1 + 1) 25 #[.int .u8 6, .string ⟨#[]⟩, .int .u8 0, .int .u8 0, .int .i64 0, .int .i64 0, .slice (some ⟨w.heap.size + 1 + 1 + 1 + 1 + 1 + 1 + 1 + 1, 0, none⟩) 2 2, .int .u8 1, .string ⟨#[100]⟩, .int .u8 0, .int .u8 0, .int .i64 0, .int .i64 0, .slice none 0 0] := by
  unfold wakeW
  iterate 1 refine Blk.alloc ?_ _
  exact Blk.new_at _ _ _ _ (by simp)
theorem wake_blk10 (w : World) : Blk (wakeW w) (w.heap.size + 1 + 1 + 1 + 1 + 1 + 1 + 1 + 1 + 1 + 1) 25 #[.int .u8 5, .string ⟨#[]⟩, .int .u8 0, .int .u8 0, .int .i64 0, .int .i64 0, .slice (some ⟨w.heap.size + 1 + 1 + 1 + 1 + 1 + 1 + 1 + 1 + 1, 0, none⟩) 2 2] := by
  unfold wakeW
  exact Blk.new_at _ _ _ _ (by simp)
theorem wake_b (w : World) : KidsAt (wakeW w) (· < (wakeW w).heap.size) [treeb] (.slice (some ⟨w.heap.size + 1 + 1 + 1 + 1, 0, none⟩) 1 1) := KidsAt.single treeb (.slice none 0 0) _ (wake_blk4 w).lt (by decide) (wake_blk4 w) (KidsAt.nil _ _)
theorem wake_x (w : World) : KidsAt (wakeW w) (· < (wakeW w).heap.size) treex.kids (.slice (some ⟨w.heap.size + 1 + 1, 0, none⟩) 2 2) := KidsAt.two (.mk 2 [120] 0 0 0 0 []) (.mk 3 [65] 0 0 0 0 []) (.slice none 0 0) (.slice none 0 0) _ (wake_blk2 w).lt (by decide) (by decide) (wake_blk2 w) (KidsAt.nil _ _) (KidsAt.nil _ _)
theorem wake_xs (w : World) : KidsAt (wakeW w) (· < (wakeW w).heap.size) [treex] (.slice (some ⟨w.heap.size + 1 + 1 + 1 + 1 + 1, 0, none⟩) 1 1) := KidsAt.single treex _ _ (wake_blk5 w).lt (by decide) (wake_blk5 w) (wake_x w)
theorem wake_first (w : World) : KidsAt (wakeW w) (· < (wakeW w).heap.size) firstT.kids (.slice (some ⟨w.heap.size + 1 + 1 + 1 + 1 + 1 + 1, 0, none⟩) 2 2) := KidsAt.two (.mk 7 [] 0 0 1 3 [treeb]) (.mk 7 [] 0 0 0 1 [treex]) _ _ _ (wake_blk6 w).lt (by decide) (by decide) (wake_blk6 w) (wake_b w) (wake_xs w)
theorem wake_or (w : World) : KidsAt (wakeW w) (· < (wakeW w).heap.size) [treeb, treec] (.slice (some ⟨w.heap.size + 1 + 1 + 1 + 1 + 1 + 1 + 1 + 1, 0, none⟩) 2 2) := KidsAt.two treeb treec (.slice none 0 0) (.slice none 0 0) _ (wake_blk8 w).lt (by decide) (by decide) (wake_blk8 w) (KidsAt.nil _ _) (KidsAt.nil _ _)
theorem wake_third (w : World) : KidsAt (wakeW w) (· < (wakeW w).heap.size) thirdT.kids (.slice (some ⟨w.heap.size + 1 + 1 + 1 + 1 + 1 + 1 + 1 + 1 + 1, 0, none⟩) 2 2) := KidsAt.two (.mk 6 [] 0 0 0 0 [treeb, treec]) treed _ (.slice none 0 0) _ (wake_blk9 w).lt (by decide) (by decide) (wake_blk9 w) (wake_or w) (KidsAt.nil _ _)
end Go.Proofs.YtodenbimeojgdaaGreatDoor

/-
  The contract of frankinglaw02's awake (the chapter's examples): it answers true. Conditions: the tables abnf.leaves and the library's powers of ten lie where they do.
-/
namespace Go.Proofs.YtodenbimeojgdaaGreatDoor
open Go.RowKit

def wakeY (w : World) : Rrow := [({ name := [97], place := 0, more := false, tree := firstT }, .slice (some ⟨w.heap.size + 1 + 1 + 1 + 1 + 1 + 1, 0, none⟩) 2 2), ({ name := [97], place := 0, more := false, tree := treeb }, .slice none 0 0), ({ name := [97], place := 0, more := false, tree := thirdT }, .slice (some ⟨w.heap.size + 1 + 1 + 1 + 1 + 1 + 1 + 1 + 1 + 1, 0, none⟩) 2 2)]
theorem wake_kids {w W : World} (hb : Below (wakeW w).heap.size (wakeW w) W) : RKids W (· < W.heap.size) (wakeY w) := by
  intro p hp
  have up : ∀ {ks : List Tr} {sl : Value}, KidsAt (wakeW w) (· < (wakeW w).heap.size) ks sl → KidsAt W (· < W.heap.size) ks sl := fun h => (h.under hb).mono (fun b hl _ => hl)
  simp only [wakeY, List.mem_cons, List.not_mem_nil, or_false] at hp
  rcases hp with rfl | rfl | rfl
  · exact ⟨up (wake_first w), Nat.zero_le _⟩
  · exact ⟨KidsAt.nil _ _, by decide⟩
  · exact ⟨up (wake_third w), Nat.zero_le _⟩
theorem wake_same {w : World} {ps : Rrow} (hps : ps.map Prod.fst = [{ name := [97], place := 0, more := false, tree := firstT }, { name := [97], place := 22, more := false, tree := treeb }, { name := [97], place := 30, more := false, tree := thirdT }]) : ∀ (i : Nat) (x y : Rl × Value), ps[i]? = some x → (wakeY w)[i]? = some y → SameR false x.1 y.1 := by
  intro i x y hx hy
  have hx1 : (ps.map Prod.fst)[i]? = some x.1 := by rw [List.getElem?_map, hx]; rfl
  rw [hps] at hx1
  match i, hx1, hy with
  | 0, h1, h2 => injection h1 with h1; injection h2 with h2; rw [← h1, ← h2]; exact ⟨rfl, rfl, rfl, fun h => by cases h⟩
  | 1, h1, h2 => injection h1 with h1; injection h2 with h2; rw [← h1, ← h2]; exact ⟨rfl, rfl, rfl, fun h => by cases h⟩
  | 2, h1, h2 => injection h1 with h1; injection h2 with h2; rw [← h1, ← h2]; exact ⟨rfl, rfl, rfl, fun h => by cases h⟩
  | i + 3, h1, _ => simp at h1

set_option maxRecDepth 100000 in
set_option maxHeartbeats 4000000 in
theorem awake_any (w : World) (hlv : LeavesAt w) (hpw : PowAt w) :
    Calls Tryz.prog 8 #[] w fun e w' => e = .returned (.bool true) ∧ Below w.heap.size w w' := by
  have HB0 := Lib.hid (wake_below w)
  have HOF : Hid (Calls Tryz.prog 19 #[.string (bs wakeA)] (wakeW w) fun e w' => ParseOut (wakeW w) ([{ name := [97], place := 0, more := false, tree := firstT }, { name := [97], place := 22, more := false, tree := treeb }, { name := [97], place := 30, more := false, tree := thirdT }], 0, 0) e w') := by
    have := Of_any wakeA few_A short_A (wakeW w) (hlv.below HB0.out hlv.lt)
    rw [of_A] at this
    exact this
  have HLV : Hid (∀ W, Below w.heap.size w W → LeavesAt W) := fun W hW => hlv.below hW hlv.lt
  have HPW : Hid (∀ W, Below w.heap.size w W → PowAt W) := fun W hW => hpw.below hW hpw.lt
  clear hlv hpw
  go_enter Tryz.func8, Tryz.ntmps8
  go_wp2_with fail
  refine HOF.out.mono ?_
  rintro e w1 ⟨v, rfl, hr, hb⟩
  obtain ⟨⟨ps, hps, hown, hkids⟩⟩ := hr
  have hrow := RRow.of_own hown hkids
  have HB1 := Lib.hid (HB0.out.trans (hb.mono HB0.out.size))
  have c0 := ((wake_blk0 w).below hb (wake_blk0 w).lt).cell
  have c7 := ((wake_blk7 w).below hb (wake_blk7 w).lt).cell
  have c10 := ((wake_blk10 w).below hb (wake_blk10 w).lt).cell
  have HBW := Lib.hid hb
  obtain ⟨A, c, rfl, _⟩ := hrow.row
  have HPL : Hid (ps.length = 3) := by show _ = _; have := congrArg List.length hps; simpa using this
  have HROW := Lib.hid hrow
  have HPS := Lib.hid hps
  clear hown hkids hb hrow hps HOF
  go_wp2_with fail
  refine (Rules_same _ _ ps (wakeY w) false _ (by rw [HPL.out]; omega) (by rw [HPL.out]; rfl) (wake_same HPS.out) (HROW.out.below ((Below.refl _ _).alloc (Nat.le_refl _) _)) (RRow.lit (wakeY w) (Blk.new _ _ _) rfl rfl _ (wake_kids (HBW.out.alloc HBW.out.size _)))).mono ?_
  rintro e w2 ⟨rfl, hb2⟩
  have HB2 := Lib.hid ((HB1.out.alloc HB1.out.size _).trans (hb2.mono (Nat.le_trans HB1.out.size (by simp))))
  clear hb2 c0 c7 c10 HROW HPS HPL HBW HB1 HB0
  go_wp2_with fail
  refine (prints_true wakeP0 wakeQ0 _ few_P0 short_P0 of_P0 print_P0 byte_firstT text_firstT (by decide) (by decide) _ (HLV.out _ HB2.out) (HPW.out _ HB2.out)).mono ?_
  rintro e w3 ⟨rfl, hb3⟩
  have HB3 := Lib.hid (HB2.out.trans (hb3.mono HB2.out.size))
  clear hb3
  go_wp2_with fail
  refine (prints_true wakeP1 wakeQ1 _ few_P1 short_P1 of_P1 print_P1 byte_thirdT text_thirdT (by decide) (by decide) _ (HLV.out _ HB3.out) (HPW.out _ HB3.out)).mono ?_
  rintro e w4 ⟨rfl, hb4⟩
  have HB4 := Lib.hid (HB3.out.trans (hb4.mono HB3.out.size))
  clear hb4
  go_wp2_with fail
  refine (prints_true wakeP2 wakeQ2 _ few_P2 short_P2 of_P2 print_P2 byte_treeb text_treeb (by decide) (by decide) _ (HLV.out _ HB4.out) (HPW.out _ HB4.out)).mono ?_
  rintro e w5 ⟨rfl, hb5⟩
  have HB5 := Lib.hid (HB4.out.trans (hb5.mono HB4.out.size))
  clear hb5
  go_wp2_with fail
  refine (fails_true wakeF0 4 20 few_F0 short_F0 of_F0 _ (HLV.out _ HB5.out)).mono ?_
  rintro e w6 ⟨rfl, hb6⟩
  have HB6 := Lib.hid (HB5.out.trans (hb6.mono HB5.out.size))
  clear hb6
  go_wp2_with fail
  refine (fails_true wakeF1 6 20 few_F1 short_F1 of_F1 _ (HLV.out _ HB6.out)).mono ?_
  rintro e w7 ⟨rfl, hb7⟩
  have HB7 := Lib.hid (HB6.out.trans (hb7.mono HB6.out.size))
  clear hb7
  go_wp2_with fail
  refine (fails_true wakeF2 2 20 few_F2 short_F2 of_F2 _ (HLV.out _ HB7.out)).mono ?_
  rintro e w8 ⟨rfl, hb8⟩
  have HB8 := Lib.hid (HB7.out.trans (hb8.mono HB7.out.size))
  clear hb8
  go_wp2
  go_ret
  exact ⟨rfl, HB8.out⟩
end Go.Proofs.YtodenbimeojgdaaGreatDoor

/-
  What AbnfLeaves asks of tokens and rules, in plain terms: strings.ToLower of names, places of rules. No conditions.
-/
namespace Go.Proofs.YtodenbimeojgdaaGreatDoor
open Go.RowKit

theorem lower_small (c : UInt8) : Lib.lowerB c = smallC c := byte_all (p := fun c => Lib.lowerB c = smallC c) (by decide +kernel) c
theorem toLower_small (l : List UInt8) : Lib.toLowerA l = l.map smallC := by
  unfold Lib.toLowerA
  exact List.map_congr_left (fun c _ => lower_small c)
theorem ascii_of_small (c : UInt8) : nameTailZ (smallC c).toNat = true → c.toNat < 128 := byte_all (p := fun c => nameTailZ (smallC c).toNat = true → c.toNat < 128) (by decide +kernel) c
theorem name_tail {l : List UInt8} (h : nameB l = true) : ∀ c ∈ l, nameTailZ c.toNat = true := by
  cases l with
  | nil => intro c hc; cases hc
  | cons a r =>
    have e : nameB (a :: r) = (smallZ a.toNat && r.all (fun c => nameTailZ c.toNat)) := rfl
    rw [e, Bool.and_eq_true, List.all_eq_true] at h
    intro c hc
    rcases List.mem_cons.1 hc with rfl | hc
    · unfold nameTailZ
      rw [h.1]
      rfl
    · exact h.2 c hc
theorem name_ascii {l : List UInt8} (h : nameB (l.map smallC) = true) : ∀ c ∈ l, c.toNat < 128 := fun c hc =>
  ascii_of_small c (name_tail h (smallC c) (List.mem_map_of_mem hc))
theorem lex_short (l : List UInt8) (h : l.length ≤ 65536) : Short (lexP l).1 := fun _ t ht => Nat.le_trans (lex_fine l t (List.mem_of_getElem? ht)).2 h
theorem lex_clean (l : List UInt8) : CleanL (lexP l).1 := fun t ht => (lex_fine l t ht).1
theorem tok_name {l : List UInt8} {t : Tk} (h : TokOk l t) (hk : t.kind = 1) : ∃ p : Nat, t.place = p ∧ t.text.length + p ≤ l.length ∧ (l.drop p).take t.text.length = t.text := by
  obtain ⟨p, hp, hl, h13 | ⟨sg, hsg, hpre, hkd⟩⟩ := h
  · omega
  · refine ⟨p, hp, ?_⟩
    have e : sg = t.text := by
      rcases hkd with h | h | h | h
      · exact h.2
      · omega
      · omega
      · exfalso
        simp only [signs, List.mem_cons, Prod.mk.injEq, List.not_mem_nil, or_false] at h
        omega
    subst e
    have := hpre.length_le
    rw [List.length_drop] at this
    exact ⟨by omega, (List.prefix_iff_eq_take.1 hpre).symm⟩
/-- what is known of a rule of a text -/
def RuleIn (l : List UInt8) (r : Rl) : Prop := rightB r.tree = true ∧ ∃ (p : Nat) (x : List UInt8), r.place = p ∧ r.name = x.map smallC ∧ x.length + p ≤ l.length ∧ (l.drop p).take x.length = x ∧ Ascii x
theorem leaves_ok (l : List UInt8) (h : l.length ≤ 65536) (he : (lexP l).2.2 = 0) (hp : (parseP (lexP l).1).2.2 = 0) :
    (parseP (lexP l).1).1.flatMap ruleLeaves = wantL (lexP l).1 ∧ (parseP (lexP l).1).2.1 = 0 ∧ ∀ r ∈ (parseP (lexP l).1).1, RuleIn l r := by
  obtain ⟨h1, h2, h3⟩ := (parseP_leaves (lex_clean l)).1 hp
  refine ⟨h1, h2, fun r hr => ?_⟩
  obtain ⟨hr1, t, ht, hk, hpl, hnm, hn⟩ := h3 r hr
  obtain ⟨i, hi⟩ := List.getElem?_of_mem ht
  have hok := (((lex_whole l h).1 he).2.1 i t hi).2.2
  obtain ⟨p, hpp, hlen, htk⟩ := tok_name hok hk
  exact ⟨hr1, p, t.text, hpl.trans hpp, hnm, hlen, htk, (lex_clean l t ht).2.2 hk⟩
theorem leaves_bad (l : List UInt8) (h : l.length ≤ 65536) (he : (lexP l).2.2 = 0) (hp : (parseP (lexP l).1).2.2 ≠ 0) :
    (parseP (lexP l).1).1 = [] ∧ ∃ p : Nat, (parseP (lexP l).1).2.1 = p ∧ p ≤ l.length := by
  obtain ⟨h1, t, ht, h2⟩ := (parseP_leaves (lex_clean l)).2 hp
  obtain ⟨i, hi⟩ := List.getElem?_of_mem ht
  obtain ⟨p, hpp, hpl, _⟩ := (((lex_whole l h).1 he).2.1 i t hi).2.2
  exact ⟨h1, p, h2.trans hpp, hpl⟩
theorem parse_nil : parseP [] = ([], 0, 0) := rfl
theorem wantL_len (l : List Tk) : (wantL l).length ≤ l.length := by
  unfold wantL
  rw [List.length_map]
  exact List.length_filter_le _ _
end Go.Proofs.YtodenbimeojgdaaGreatDoor

/-
  A tree, and a rule, that came in as an argument: what its reading says of memory. No conditions.
-/
namespace Go.Proofs.YtodenbimeojgdaaGreatDoor
open Go.RowKit

/-- letters and nodes of a tree so deep -/
def massD : Nat → Tr → Nat
  | 0, _ => 0
  | d + 1, t => t.text.length + 1 + (t.kids.map (massD d)).sum

section
variable {H : Type} {enc : TypeId × Value → H} {w : World} {base : Nat} {spare : Nat → Bool} {held : Bool}

theorem cellsU8 : Tryz.prog.cellsOf 5 = 1 := by kernel_rfl
theorem cellsStr : Tryz.prog.cellsOf 9 = 1 := by kernel_rfl
theorem cellsInt : Tryz.prog.cellsOf 3 = 1 := by kernel_rfl
theorem cellsBool : Tryz.prog.cellsOf 4 = 1 := by kernel_rfl
theorem cellsKids : Tryz.prog.cellsOf 23 = 1 := by kernel_rfl
theorem cellsTree : Tryz.prog.cellsOf 25 = 7 := by kernel_rfl
theorem cellsRule : Tryz.prog.cellsOf 27 = 10 := by kernel_rfl

theorem list4 {α : Type} (l : List α) (h : l.length = 4) : ∃ a0 a1 a2 a3, l = [a0, a1, a2, a3] := by
  match l, h with
  | [a0, a1, a2, a3], _ => exact ⟨a0, a1, a2, a3, rfl⟩
theorem list7 {α : Type} (l : List α) (h : l.length = 7) : ∃ a0 a1 a2 a3 a4 a5 a6, l = [a0, a1, a2, a3, a4, a5, a6] := by
  match l, h with
  | [a0, a1, a2, a3, a4, a5, a6], _ => exact ⟨a0, a1, a2, a3, a4, a5, a6, rfl⟩
theorem list10 {α : Type} (l : List α) (h : l.length = 10) : ∃ a0 a1 a2 a3 a4 a5 a6 a7 a8 a9, l = [a0, a1, a2, a3, a4, a5, a6, a7, a8, a9] := by
  match l, h with
  | [a0, a1, a2, a3, a4, a5, a6, a7, a8, a9], _ => exact ⟨a0, a1, a2, a3, a4, a5, a6, a7, a8, a9, rfl⟩
theorem tree_parts {fuel : Nat} {cs : List Value} {x : DataW H × List MemPlace} (h : DataW.trod enc Tryz.prog w base spare held fuel 25 cs = some x) :
    ∃ (n : Nat) (k : Int) (s : ByteArray) (lo hi mn mx : Int) (sl : Value) (y : DataW H × List MemPlace), fuel = n + 1 ∧ cs = [.int .u8 k, .string s, .int .u8 lo, .int .u8 hi, .int .i64 mn, .int .i64 mx, sl] ∧
      x.1 = .agg [.lit (.int .u8 k), .lit (.string s.data.toList), .lit (.int .u8 lo), .lit (.int .u8 hi), .lit (.int .i64 mn), .lit (.int .i64 mx), y.1] ∧ s.size ≤ maxLen ∧ (Lit.int .u8 lo).wf = true ∧ (Lit.int .u8 hi).wf = true ∧
      DataW.trod enc Tryz.prog w base spare held n 23 [sl] = some y := by
  obtain ⟨xs, n, rfl, rfl, hl, hlen, hf⟩ := DataW.trod_struct Tryz.underlying25 h
  rw [cellsTree] at hl
  have hlen : xs.length = 7 := hlen
  obtain ⟨c0, c1, c2, c3, c4, c5, c6, rfl⟩ := list7 cs hl
  obtain ⟨y0, y1, y2, y3, y4, y5, y6, rfl⟩ := list7 xs hlen
  have h0 : DataW.trod enc Tryz.prog w base spare held n 5 (([c0, c1, c2, c3, c4, c5, c6].drop 0).take (Tryz.prog.cellsOf 5)) = some y0 := hf 0 _ rfl
  have h1 : DataW.trod enc Tryz.prog w base spare held n 9 (([c0, c1, c2, c3, c4, c5, c6].drop 1).take (Tryz.prog.cellsOf 9)) = some y1 := hf 1 _ rfl
  have h2 : DataW.trod enc Tryz.prog w base spare held n 5 (([c0, c1, c2, c3, c4, c5, c6].drop 2).take (Tryz.prog.cellsOf 5)) = some y2 := hf 2 _ rfl
  have h3 : DataW.trod enc Tryz.prog w base spare held n 5 (([c0, c1, c2, c3, c4, c5, c6].drop 3).take (Tryz.prog.cellsOf 5)) = some y3 := hf 3 _ rfl
  have h4 : DataW.trod enc Tryz.prog w base spare held n 3 (([c0, c1, c2, c3, c4, c5, c6].drop 4).take (Tryz.prog.cellsOf 3)) = some y4 := hf 4 _ rfl
  have h5 : DataW.trod enc Tryz.prog w base spare held n 3 (([c0, c1, c2, c3, c4, c5, c6].drop 5).take (Tryz.prog.cellsOf 3)) = some y5 := hf 5 _ rfl
  have h6 : DataW.trod enc Tryz.prog w base spare held n 23 (([c0, c1, c2, c3, c4, c5, c6].drop 6).take (Tryz.prog.cellsOf 23)) = some y6 := hf 6 _ rfl
  rw [cellsU8] at h0 h2 h3
  rw [cellsStr] at h1
  rw [cellsInt] at h4 h5
  rw [cellsKids] at h6
  obtain ⟨k, e0, rfl, _⟩ := DataW.trod_int Tryz.underlying5 h0
  obtain ⟨s, e1, rfl, hs⟩ := DataW.trod_string Tryz.underlying9 h1
  obtain ⟨lo, e2, rfl, hlo⟩ := DataW.trod_int Tryz.underlying5 h2
  obtain ⟨hi, e3, rfl, hhi⟩ := DataW.trod_int Tryz.underlying5 h3
  obtain ⟨mn, e4, rfl, _⟩ := DataW.trod_int Tryz.underlying3 h4
  obtain ⟨mx, e5, rfl, _⟩ := DataW.trod_int Tryz.underlying3 h5
  have g0 : c0 = .int .u8 k := by injection e0
  have g1 : c1 = .string s := by injection e1
  have g2 : c2 = .int .u8 lo := by injection e2
  have g3 : c3 = .int .u8 hi := by injection e3
  have g4 : c4 = .int .i64 mn := by injection e4
  have g5 : c5 = .int .i64 mx := by injection e5
  subst g0 g1 g2 g3 g4 g5
  exact ⟨n, k, s, lo, hi, mn, mx, c6, y6, rfl, rfl, rfl, hs, hlo, hhi, h6⟩

theorem mass_all {d : Nat} : ∀ (ks : List Tr) (es : List (DataW H)), ks.length = es.length → (∀ (i : Nat) k e, ks[i]? = some k → es[i]? = some e → massD d k ≤ Rows.uptoBulk e) → (ks.map (massD d)).sum ≤ Rows.uptoBulkAll es := by
  intro ks
  induction ks with
  | nil => intro es _ _; simp
  | cons k r ih =>
    intro es hl he
    cases es with
    | nil => simp at hl
    | cons e es =>
      have h1 := he 0 k e rfl rfl
      have h2 := ih es (by simpa using hl) (fun i k' e' hk he' => he (i + 1) k' e' (by simpa using hk) (by simpa using he'))
      show ((k :: r).map (massD d)).sum ≤ Rows.uptoBulk e + Rows.uptoBulkAll es
      simp only [List.map_cons, List.sum_cons]
      omega

/-- what a tree's reading says -/
structure Opened (w : World) (t : Tr) (sl : Value) (D : DataW H) : Prop where
  kids : KidsAt w (· < w.heap.size) t.kids sl
  text : t.text.length ≤ maxLen
  bytes : ∀ d, byteD d t
  texts : ∀ d, textD d t
  mass : ∀ d, massD d t ≤ Rows.uptoBulk D

theorem open_tree : ∀ (fuel : Nat) (cs : List Value) (x : DataW H × List MemPlace), DataW.trod enc Tryz.prog w base spare held fuel 25 cs = some x →
    ∃ (t : Tr) (sl : Value), cs = headCells t sl ∧ Opened w t sl x.1 := by
  intro fuel
  induction fuel using Nat.strongRecOn with
  | _ fuel IH =>
    intro cs x h
    obtain ⟨n, k, s, lo, hi, mn, mx, sl, y, rfl, rfl, hx, hs, hlo, hhi, hy⟩ := tree_parts h
    have blo := bounds_u8 hlo
    have bhi := bounds_u8 hhi
    have hbs : bs s.data.toList = s := by cases s; simp [bs]
    have hsz : s.data.toList.length ≤ maxLen := by simpa using hs
    rcases DataW.trod_slice Tryz.underlying23 hy with ⟨hn, rfl⟩ | ⟨a, len, cap, elems, rest, m, rfl, hcs, rfl, hb, hl, hm, hlen, hel, _, _⟩
    · have hn : sl = .slice none 0 0 := by injection hn
      subst hn
      refine ⟨Tr.mk k s.data.toList lo hi mn mx [], .slice none 0 0, ?_, ⟨.nil _ _, hsz, fun d => ?_, fun d => ?_, fun d => ?_⟩⟩
      · simp only [headCells, Tr.kind, Tr.text, Tr.lo, Tr.hi, Tr.mn, Tr.mx, hbs]
      · cases d with
        | zero => trivial
        | succ d => exact ⟨blo, bhi, fun k hk => by cases hk⟩
      · cases d with
        | zero => trivial
        | succ d => exact ⟨hsz, fun k hk => by cases hk⟩
      · rw [hx]
        cases d with
        | zero => exact Nat.zero_le _
        | succ d =>
          show s.data.toList.length + 1 + ([] : List Nat).sum ≤ (1 + ((s.data.toList.length + 1) + (1 + (1 + (1 + (1 + (1 + 0))))))) + 1
          simp only [List.sum_nil]
          omega
    · have hcs : sl = .slice (some a) len cap := by injection hcs
      subst hcs
      have each : ∀ i : Nat, ∃ p : Tr × Value, i < len → ∃ y, elems[i]? = some y ∧ Opened w p.1 p.2 y.1 ∧ ∀ j u, (headCells p.1 p.2)[j]? = some u → w.cell? ((a.add (i * 7)).add j) = some u := by
        intro i
        by_cases hi : i < len
        · have he := hel i hi
          rw [List.getElem?_eq_getElem (by omega), cellsTree, Option.bind_eq_some_iff] at he
          obtain ⟨cs', hc', ht'⟩ := he
          obtain ⟨t', sl', rfl, ho⟩ := IH m (by omega) cs' _ ht'
          refine ⟨(t', sl'), fun _ => ⟨_, List.getElem?_eq_getElem (by omega), ho, fun j u hu => ?_⟩⟩
          obtain ⟨_, _, hcell⟩ := World.cells?_some hc'
          have hj : j < 7 := (List.getElem?_eq_some_iff.1 hu).1
          rw [hcell j hj, hu]
        · exact ⟨(Tr.mk 0 [] 0 0 0 0 [], .slice none 0 0), fun h => absurd h hi⟩
      obtain ⟨f, hf⟩ := Classical.axiomOfChoice each
      have hkl : ((List.range len).map fun i => (f i).1).length = len := by simp
      have hki : ∀ i (h : i < ((List.range len).map fun i => (f i).1).length), ((List.range len).map fun i => (f i).1)[i] = (f i).1 := fun i h => by simp
      have hkm : ∀ t ∈ ((List.range len).map fun i => (f i).1), ∃ i, i < len ∧ t = (f i).1 := fun t ht => by
        obtain ⟨i, hi, rfl⟩ := List.mem_map.1 ht
        exact ⟨i, List.mem_range.1 hi, rfl⟩
      refine ⟨Tr.mk k s.data.toList lo hi mn mx ((List.range len).map fun i => (f i).1), .slice (some a) len cap, ?_, ⟨?_, hsz, fun d => ?_, fun d => ?_, fun d => ?_⟩⟩
      · simp only [headCells, Tr.kind, Tr.text, Tr.lo, Tr.hi, Tr.mn, Tr.mx, hbs]
      · show KidsAt w (· < w.heap.size) ((List.range len).map fun i => (f i).1) (.slice (some a) len cap)
        by_cases h0 : len = 0
        · subst h0
          exact .nil _ _
        · obtain ⟨b, off, spot⟩ := a
          obtain ⟨y0, _, _, hc0⟩ := hf 0 (by omega)
          have hcell0 := hc0 0 _ rfl
          have hspot : spot = none := by simpa [Addr.add] using World.cell?_spot hcell0
          subst hspot
          rw [Go.WideShapes.add_plain, Go.WideShapes.add_plain] at hcell0
          have hblt : b < w.heap.size := by
            rcases Nat.lt_or_ge b w.heap.size with hlt | hge
            · exact hlt
            · simp [World.cell?, Array.getElem?_eq_none hge] at hcell0
          have := KidsAt.row (w := w) (S := (· < w.heap.size)) ((List.range len).map fun i => (f i).1) b off cap (fun i => (f i).2) hblt hblt (by rw [hkl]; omega) (by rw [hkl]; exact hl) (by rw [hkl]; omega)
            (fun i hi => by
              rw [hki i hi]
              obtain ⟨_, _, ho, _⟩ := hf i (by rw [← hkl]; exact hi)
              exact ho.text)
            (fun i hi j u hu => by
              rw [hki i hi] at hu
              obtain ⟨_, _, _, hc⟩ := hf i (by rw [← hkl]; exact hi)
              have := hc j u hu
              rw [Go.WideShapes.add_plain, Go.WideShapes.add_plain] at this
              exact this)
            (fun i hi => by
              rw [hki i hi]
              obtain ⟨_, _, ho, _⟩ := hf i (by rw [← hkl]; exact hi)
              exact ho.kids)
          rw [hkl] at this
          exact this
      · cases d with
        | zero => trivial
        | succ d =>
          refine ⟨blo, bhi, fun t ht => ?_⟩
          obtain ⟨i, hi, rfl⟩ := hkm t ht
          obtain ⟨_, _, ho, _⟩ := hf i hi
          exact ho.bytes d
      · cases d with
        | zero => trivial
        | succ d =>
          refine ⟨hsz, fun t ht => ?_⟩
          obtain ⟨i, hi, rfl⟩ := hkm t ht
          obtain ⟨_, _, ho, _⟩ := hf i hi
          exact ho.texts d
      · rw [hx]
        cases d with
        | zero => exact Nat.zero_le _
        | succ d =>
          have hall := mass_all (d := d) ((List.range len).map fun i => (f i).1) (elems.map (·.1)) (by simp [hlen]) (fun i t e ht he => by
            obtain ⟨hi, rfl⟩ := List.getElem?_eq_some_iff.1 ht
            rw [hki i hi]
            obtain ⟨y, hy, ho, _⟩ := hf i (by rw [← hkl]; exact hi)
            rw [List.getElem?_map, hy] at he
            have : y.1 = e := by simpa using he
            rw [← this]
            exact ho.mass d)
          show s.data.toList.length + 1 + ((((List.range len).map fun i => (f i).1)).map (massD d)).sum ≤ (1 + ((s.data.toList.length + 1) + (1 + (1 + (1 + (1 + ((Rows.uptoBulkAll (elems.map (·.1)) + Rows.uptoBulkAll (rest.map (·.1)) + 1) + 0))))))) + 1
          omega

/-- a rule that came in -/
theorem open_rule {fuel : Nat} {cs : List Value} {x : DataW H × List MemPlace} (h : DataW.trod enc Tryz.prog w base spare held fuel 27 cs = some x) :
    ∃ (r : Rl) (sl : Value) (D : DataW H), cs = ruleCells r sl ∧ Opened w r.tree sl D ∧ r.name.length + Rows.uptoBulk D ≤ Rows.uptoBulk x.1 ∧ r.name.length ≤ maxLen := by
  obtain ⟨xs, n, rfl, rfl, hl, hlen, hf⟩ := DataW.trod_struct Tryz.underlying27 h
  rw [cellsRule] at hl
  have hlen : xs.length = 4 := hlen
  obtain ⟨c0, c1, c2, c3, c4, c5, c6, c7, c8, c9, rfl⟩ := list10 cs hl
  obtain ⟨y0, y1, y2, y3, rfl⟩ := list4 xs hlen
  have h0 : DataW.trod enc Tryz.prog w base spare held n 9 (([c0, c1, c2, c3, c4, c5, c6, c7, c8, c9].drop 0).take (Tryz.prog.cellsOf 9)) = some y0 := hf 0 _ rfl
  have h1 : DataW.trod enc Tryz.prog w base spare held n 3 (([c0, c1, c2, c3, c4, c5, c6, c7, c8, c9].drop 1).take (Tryz.prog.cellsOf 3)) = some y1 := hf 1 _ rfl
  have h2 : DataW.trod enc Tryz.prog w base spare held n 4 (([c0, c1, c2, c3, c4, c5, c6, c7, c8, c9].drop 2).take (Tryz.prog.cellsOf 4)) = some y2 := hf 2 _ rfl
  have h3 : DataW.trod enc Tryz.prog w base spare held n 25 (([c0, c1, c2, c3, c4, c5, c6, c7, c8, c9].drop 3).take (Tryz.prog.cellsOf 25)) = some y3 := hf 3 _ rfl
  rw [cellsStr] at h0
  rw [cellsInt] at h1
  rw [cellsBool] at h2
  rw [cellsTree] at h3
  obtain ⟨s, e0, rfl, hs⟩ := DataW.trod_string Tryz.underlying9 h0
  obtain ⟨at_, e1, rfl, _⟩ := DataW.trod_int Tryz.underlying3 h1
  obtain ⟨mo, e2, rfl⟩ := DataW.trod_bool Tryz.underlying4 h2
  obtain ⟨t, sl, e3, ho⟩ := open_tree n _ _ h3
  have g0 : c0 = .string s := by injection e0
  have g1 : c1 = .int .i64 at_ := by injection e1
  have g2 : c2 = .bool mo := by injection e2
  have g3 : [c3, c4, c5, c6, c7, c8, c9] = headCells t sl := e3
  subst g0 g1 g2
  have hbs : bs s.data.toList = s := by cases s; simp [bs]
  have hsz : s.data.toList.length ≤ maxLen := by simpa using hs
  refine ⟨{ name := s.data.toList, place := at_, more := mo, tree := t }, sl, y3.1, ?_, ho, ?_, hsz⟩
  · show [Value.string s, .int .i64 at_, .bool mo] ++ [c3, c4, c5, c6, c7, c8, c9] = [Value.string (bs s.data.toList), .int .i64 at_, .bool mo] ++ headCells t sl
    rw [g3, hbs]
  · show s.data.toList.length + Rows.uptoBulk y3.1 ≤ ((s.data.toList.length + 1) + (1 + (1 + (Rows.uptoBulk y3.1 + 0)))) + 1
    omega
end
end Go.Proofs.YtodenbimeojgdaaGreatDoor
