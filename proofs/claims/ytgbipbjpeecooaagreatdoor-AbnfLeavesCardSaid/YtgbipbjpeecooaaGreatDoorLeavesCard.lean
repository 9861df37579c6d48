/-
  AbnfLeaves answers true for every text, and leaves the text as it was: the row, and the tied card. Conditions: the listed tables as the program's text lays them (the card ties them).
-/
import Derived.Test.YtgbipbjpeecooaaGreatDoorM05
import Derived.Test.YtgbipbjpeecooaaGreatDoorM06
import Derived.Test.YtgbipbjpeecooaaGreatDoorRows
import Derived.Below
import Derived.ChangeSame
import Derived.Test.YtgbipbjpeecooaaGreatDoorTie
import Derived.Test.YtgbipbjpeecooaaGreatDoorCards
import Derived.ProofKit
import Derived.OpenShut
import Derived.LaidMore
import Derived.Lay
import Derived.SevenTiedAt
import Derived.Stop.Joined
import Derived.Stop.LaidErr
import Derived.Lib.LaidTab
import Derived.ShutString
/-
  What AbnfLeaves asks of tokens and rules, in plain terms: strings.ToLower of names, places of rules. No conditions.
-/
namespace Go.Proofs.YtgbipbjpeecooaaGreatDoor
open Go.RowKit

theorem lower_small (c : UInt8) : Lib.lowerB c = smallC c := byte_all (p := fun c => Lib.lowerB c = smallC c) (by decide +kernel) c
theorem toLower_small (l : List UInt8) : Lib.toLowerA l = l.map smallC := by
  unfold Lib.toLowerA
  exact List.map_congr_left (fun c _ => lower_small c)
theorem ascii_of_small (c : UInt8) : nameTailZ (smallC c).toNat = true → c.toNat < 128 := byte_all (p := fun c => nameTailZ (smallC c).toNat = true → c.toNat < 128) (by decide +kernel) c
theorem name_tail {l : List UInt8} (h : nameB l = true) : ∀ c ∈ l, nameTailZ c.toNat = true := by
  cases l with
  | nil => intro c hc; cases hc
  | cons a r =>
    have e : nameB (a :: r) = (smallZ a.toNat && r.all (fun c => nameTailZ c.toNat)) := rfl
    rw [e, Bool.and_eq_true, List.all_eq_true] at h
    intro c hc
    rcases List.mem_cons.1 hc with rfl | hc
    · unfold nameTailZ
      rw [h.1]
      rfl
    · exact h.2 c hc
theorem name_ascii {l : List UInt8} (h : nameB (l.map smallC) = true) : ∀ c ∈ l, c.toNat < 128 := fun c hc =>
  ascii_of_small c (name_tail h (smallC c) (List.mem_map_of_mem hc))
/-- the contract of strings.ToLower at a name -/
theorem lower_any (l : List UInt8) (hlen : l.length ≤ 65536) (ha : ∀ c ∈ l, c.toNat < 128) (w : World) :
    Calls Tryz.prog 24 #[.string (bs l)] w fun e w' => e = .returned (.string (bs (l.map smallC))) ∧ Below w.heap.size w w' := by
  refine (Tryz.strings_ToLower_ascii (bs l) w (by rw [bs_size]; omega) (fun j b hb => ha b (by rw [bs_toList] at hb; exact List.mem_of_getElem? hb))).mono ?_
  rintro e w' ⟨rfl, hb⟩
  rw [bs_toList, toLower_small]
  exact ⟨rfl, hb⟩
theorem lex_short (l : List UInt8) (h : l.length ≤ 65536) : Short (lexP l).1 := fun _ t ht => Nat.le_trans (lex_fine l t (List.mem_of_getElem? ht)).2 h
theorem lex_clean (l : List UInt8) : CleanL (lexP l).1 := fun t ht => (lex_fine l t ht).1
theorem tok_name {l : List UInt8} {t : Tk} (h : TokOk l t) (hk : t.kind = 1) : ∃ p : Nat, t.place = p ∧ t.text.length + p ≤ l.length ∧ (l.drop p).take t.text.length = t.text := by
  obtain ⟨p, hp, hl, h13 | ⟨sg, hsg, hpre, hkd⟩⟩ := h
  · omega
  · refine ⟨p, hp, ?_⟩
    have e : sg = t.text := by
      rcases hkd with h | h | h | h
      · exact h.2
      · omega
      · omega
      · exfalso
        simp only [signs, List.mem_cons, Prod.mk.injEq, List.not_mem_nil, or_false] at h
        omega
    subst e
    have := hpre.length_le
    rw [List.length_drop] at this
    exact ⟨by omega, (List.prefix_iff_eq_take.1 hpre).symm⟩
/-- what is known of a rule of a text -/
def RuleIn (l : List UInt8) (r : Rl) : Prop := rightB r.tree = true ∧ ∃ (p : Nat) (x : List UInt8), r.place = p ∧ r.name = x.map smallC ∧ x.length + p ≤ l.length ∧ (l.drop p).take x.length = x ∧ Ascii x
theorem leaves_ok (l : List UInt8) (h : l.length ≤ 65536) (he : (lexP l).2.2 = 0) (hp : (parseP (lexP l).1).2.2 = 0) :
    (parseP (lexP l).1).1.flatMap ruleLeaves = wantL (lexP l).1 ∧ (parseP (lexP l).1).2.1 = 0 ∧ ∀ r ∈ (parseP (lexP l).1).1, RuleIn l r := by
  obtain ⟨h1, h2, h3⟩ := (parseP_leaves (lex_clean l)).1 hp
  refine ⟨h1, h2, fun r hr => ?_⟩
  obtain ⟨hr1, t, ht, hk, hpl, hnm, hn⟩ := h3 r hr
  obtain ⟨i, hi⟩ := List.getElem?_of_mem ht
  have hok := (((lex_whole l h).1 he).2.1 i t hi).2.2
  obtain ⟨p, hpp, hlen, htk⟩ := tok_name hok hk
  exact ⟨hr1, p, t.text, hpl.trans hpp, hnm, hlen, htk, (lex_clean l t ht).2.2 hk⟩
theorem leaves_bad (l : List UInt8) (h : l.length ≤ 65536) (he : (lexP l).2.2 = 0) (hp : (parseP (lexP l).1).2.2 ≠ 0) :
    (parseP (lexP l).1).1 = [] ∧ ∃ p : Nat, (parseP (lexP l).1).2.1 = p ∧ p ≤ l.length := by
  obtain ⟨h1, t, ht, h2⟩ := (parseP_leaves (lex_clean l)).2 hp
  obtain ⟨i, hi⟩ := List.getElem?_of_mem ht
  obtain ⟨p, hpp, hpl, _⟩ := (((lex_whole l h).1 he).2.1 i t hi).2.2
  exact ⟨h1, p, h2.trans hpp, hpl⟩
theorem parse_nil : parseP [] = ([], 0, 0) := rfl
theorem wantL_len (l : List Tk) : (wantL l).length ≤ l.length := by
  unfold wantL
  rw [List.length_map]
  exact List.length_filter_le _ _
end Go.Proofs.YtgbipbjpeecooaaGreatDoor

/-
  AbnfLeaves answers true for every text without an error: its walk. Conditions: the tables abnf.leaves and the library's powers of ten lie where they do.
-/
namespace Go.Proofs.YtgbipbjpeecooaaGreatDoor
open Go.RowKit

theorem own_set {w : World} {base : Nat} {e : TypeId} {size : Nat} {v : Value} {n : Nat} {xs : List Value} {B : Nat} (h : w.ownsRow base e size v n xs) (hB : ∀ b, v.ownBlock = some b → b < B) (i : Nat) (u : Value) : (w.setCell ⟨B, i, none⟩ u).ownsRow base e size v n xs :=
  ownsRow_same h (fun b hb => Below.heap_setCell _ _ _ _ (by have := hB b hb; simp only; omega))
theorem blk_drew {w : World} {g : Nat} {t : TypeId} {cs : Array Value} (h : Blk w g t cs) : Blk w.drew g t cs := h
def gotTo (ps : Rrow) (k : Nat) : List Tk := (ps.take k).flatMap fun p => ruleLeaves p.1
theorem gotTo_succ {ps : Rrow} {k : Nat} {p : Rl × Value} (h : ps[k]? = some p) : gotTo ps (k + 1) = gotTo ps k ++ ruleLeaves p.1 := by
  obtain ⟨hl, e⟩ := List.getElem?_eq_some_iff.1 h
  unfold gotTo
  rw [List.take_succ_eq_append_getElem hl, List.flatMap_append, e]
  simp
theorem gotTo_ge (ps : Rrow) : ∀ k, k ≤ ps.length → k ≤ (gotTo ps k).length := by
  intro k
  induction k with
  | zero => intro _; exact Nat.zero_le _
  | succ k ih =>
    intro h
    have := ih (by omega)
    rw [gotTo_succ (List.getElem?_eq_getElem (show k < ps.length by omega)), List.length_append, ruleLeaves, List.length_cons]
    omega
theorem want_1 (t1 : Int) (t2 : List UInt8) (t3 t4 t5 t6 : Int) : wantL [{ kind := 1, place := t1, text := t2, mn := t3, mx := t4, lo := t5, hi := t6 }] = [{ kind := 1, place := 0, text := t2.map smallC, mn := t3, mx := t4, lo := t5, hi := t6 }] := rfl
theorem want_10 (t1 : Int) (t2 : List UInt8) (t3 t4 t5 t6 : Int) : wantL [{ kind := 10, place := t1, text := t2, mn := t3, mx := t4, lo := t5, hi := t6 }] = [{ kind := 10, place := 0, text := t2, mn := t3, mx := t4, lo := t5, hi := t6 }] := rfl
theorem want_11 (t1 : Int) (t2 : List UInt8) (t3 t4 t5 t6 : Int) : wantL [{ kind := 11, place := t1, text := t2, mn := t3, mx := t4, lo := t5, hi := t6 }] = [{ kind := 11, place := 0, text := t2, mn := t3, mx := t4, lo := t5, hi := t6 }] := rfl
theorem want_12 (t1 : Int) (t2 : List UInt8) (t3 t4 t5 t6 : Int) : wantL [{ kind := 12, place := t1, text := t2, mn := t3, mx := t4, lo := t5, hi := t6 }] = [{ kind := 12, place := 0, text := t2, mn := t3, mx := t4, lo := t5, hi := t6 }] := rfl

theorem rule_kept {W W' : World} {B B' : Nat} {v0 v1 v3 v4 v5 v6 v7 v8 v9 : Value} (hb : Below B' W W') (hB : B < B') (h : W.cell? ⟨B, 0, none⟩ = some v0 ∧ W.cell? ⟨B, 1, none⟩ = some v1 ∧ W.cell? ⟨B, 3, none⟩ = some v3 ∧ W.cell? ⟨B, 4, none⟩ = some v4 ∧ W.cell? ⟨B, 5, none⟩ = some v5 ∧ W.cell? ⟨B, 6, none⟩ = some v6 ∧ W.cell? ⟨B, 7, none⟩ = some v7 ∧ W.cell? ⟨B, 8, none⟩ = some v8 ∧ W.cell? ⟨B, 9, none⟩ = some v9) :
    W'.cell? ⟨B, 0, none⟩ = some v0 ∧ W'.cell? ⟨B, 1, none⟩ = some v1 ∧ W'.cell? ⟨B, 3, none⟩ = some v3 ∧ W'.cell? ⟨B, 4, none⟩ = some v4 ∧ W'.cell? ⟨B, 5, none⟩ = some v5 ∧ W'.cell? ⟨B, 6, none⟩ = some v6 ∧ W'.cell? ⟨B, 7, none⟩ = some v7 ∧ W'.cell? ⟨B, 8, none⟩ = some v8 ∧ W'.cell? ⟨B, 9, none⟩ = some v9 := by
  have e : ∀ o, W'.cell? ⟨B, o, none⟩ = W.cell? ⟨B, o, none⟩ := fun o => hb.cell (p := ⟨B, o, none⟩) hB
  rw [e, e, e, e, e, e, e, e, e]
  exact h
/-- strings.ToLower of the bytes at a rule's place -/
theorem lower_at (s : ByteArray) (p L : Nat) (x nm : List UInt8) (hs : s.size ≤ 3000) (hnm : nm = x.map smallC) (hL : nm.length = L) (hle : x.length + p ≤ s.data.toList.length) (htake : (s.data.toList.drop p).take x.length = x) (ha : Ascii x) (W : World) :
    Calls Tryz.prog 24 #[.string (s.extract p (p + L))] W fun e w' => e = .returned (.string (bs nm)) ∧ Below W.heap.size W w' := by
  have hx : x.length = L := by rw [← hL, hnm, List.length_map]
  have e : s.extract p (p + L) = bs x := by
    apply ByteArray.ext
    apply Array.ext'
    rw [extract_list, show p + L - p = x.length from by omega, htake]
    exact (bs_toList x).symm
  rw [e, hnm]
  rw [listLen] at hle
  exact lower_any x (by omega) ha W

set_option maxRecDepth 1000000 in
set_option maxHeartbeats 8000000 in
theorem AbnfLeaves_ok (s : ByteArray) (w : World) (hs : s.size ≤ 3000) (hlv : LeavesAt w) (hpw : PowAt w) (he : (lexP s.data.toList).2.2 = 0) (hp : (parseP (lexP s.data.toList).1).2.2 = 0) :
    Calls Tryz.prog 6 #[.string s] w fun e w' => e = .returned (.bool true) ∧ Below w.heap.size w w' := by
  obtain ⟨i0, hi0, hz0, hz1, hz2⟩ := info_parts Tryz.infoTok
  have HLEN := Lib.hid (listLen s)
  have hll : s.data.toList.length ≤ 65536 := by rw [listLen]; omega
  obtain ⟨hflat, hpl, hrules⟩ := leaves_ok _ hll he hp
  have hcount := lexP_len s.data.toList
  rw [listLen] at hcount
  have hshort := lex_short _ hll
  have hclean := lex_clean s.data.toList
  have HLX := Lib.hid (fun W => Lex_any s W)
  have HWAKE : Hid (∀ W, Below w.heap.size w W → Calls Tryz.prog 10 #[] W fun e w' => e = .returned (.bool true) ∧ Below W.heap.size W w') := fun W hW => awake_any W (hlv.below hW hlv.lt) (hpw.below hW hpw.lt)
  have HLV : Hid (∀ W, Below w.heap.size w W → LeavesAt W) := fun W hW => hlv.below hW hlv.lt
  clear hlv hpw
  generalize lexP s.data.toList = X at *
  obtain ⟨toks, pl, er⟩ := X
  simp only at he hp hflat hpl hrules hcount hshort hclean
  subst he
  have HPR : Hid (∀ (W : World) (A : Option Addr) (c : Nat), TokRow W (.slice A toks.length c) toks → (∀ a, A = some a → a.block < W.heap.size) → LeavesAt W → Calls Tryz.prog 12 #[.slice A toks.length c] W fun e w' => ParseOut W (parseP toks) e w') := fun W A c h1 h2 h3 => Parse_any W A _ c toks h1 rfl h2 (by omega) h3 hshort
  generalize parseP toks = R at *
  obtain ⟨rules, pat, per⟩ := R
  simp only at hp hflat hpl hrules
  subst hp
  subst hpl
  have HFLAT := Lib.hid hflat
  have HRULES := Lib.hid hrules
  have HCLEAN := Lib.hid hclean
  have HSHORT := Lib.hid hshort
  clear hflat hrules hclean hshort hll
  go_enter Tryz.func6, Tryz.ntmps6
  go_wp2_with (go_at_call 11; refine (HLX.out _).mono ?_)
  rintro e w1 ⟨v, rfl, hown, hb1⟩
  have hrow := TokRow.of_own hown
  obtain ⟨A, c, rfl⟩ := hrow.len
  have HP1 := Lib.hid (HPR.out w1 A c hrow (own_far hown) (HLV.out _ hb1))
  have HROW := Lib.hid hrow
  have HB1 := Lib.hid hb1
  clear hrow hown hb1 HPR HLX HLV
  go_wp2_with (go_at_call 12; refine HP1.out.mono ?_)
  rintro e w2 ⟨v2, rfl, hr2, hb2⟩
  obtain ⟨⟨ps, hps, hown2, hkids2⟩⟩ := hr2
  have hrr := RRow.of_own hown2 hkids2
  obtain ⟨A2, c2, rfl, _⟩ := hrr.row
  have HRR := Lib.hid hrr
  have HROW2 : Hid (TokRow w2 (.slice A toks.length c) toks) := HROW.out.below hb2
  have HB2 := Lib.hid (HB1.out.trans (hb2.mono HB1.out.size))
  have HPS := Lib.hid hps
  clear hrr hown2 hkids2 hb2 hps HP1 HROW HB1
  go_wp2
  generalize hn : toks.length = n at *
  have HN := Lib.hid hn
  generalize hm : ps.length = m at *
  have HM := Lib.hid hm
  clear hn hm
  have HO0 : Hid (w2.ownsRow w2.heap.size 53 7 (.slice none 0 0) (wantTo toks 0).length (toksCells (wantTo toks 0))) := World.ownsRow_nil _ _ _ _
  have HBR0 : Hid (Below w2.heap.size w2 w2) := Below.refl _ _
  go_loopw [9, 59] (fun wv i wr => ∃ (k : Nat) (vv : Value), vv = wv ∧ k ≤ n ∧ i = .int .i64 k ∧ Hid (wr.ownsRow w2.heap.size 53 7 vv (wantTo toks k).length (toksCells (wantTo toks k))) ∧ Hid (Below w2.heap.size w2 wr)) (fun _ i _ => n - (intOf i).toNat)
  case atStart => exact ⟨0, _, rfl, Nat.zero_le _, rfl, HO0, HBR0⟩
  case round =>
    clear HO0 HBR0
    obtain ⟨k, vv, rfl, hk, rfl, HO, HBR⟩ := hrel
    by_cases hlt : k < n
    · obtain ⟨t, ht⟩ : ∃ t, toks[k]? = some t := ⟨_, List.getElem?_eq_getElem (by rw [HN.out]; exact hlt)⟩
      obtain ⟨g, off, rfl, hg, a0, a1, a2, a3, a4, a5, a6⟩ := (HROW2.out.below HBR.out).at_ ht
      have HSUC := Lib.hid (wantTo_succ ht)
      have hcl := (HCLEAN.out t (List.mem_of_getElem? ht)).2.2
      have hsh := HSHORT.out _ _ ht
      have hwn : (wantTo toks k).length ≤ k := by
        have := wantL_len (toks.take k)
        rw [List.length_take] at this
        unfold wantTo
        omega
      have hsz := HBR.out.size
      have hlt' : (k : Int) < n := by omega
      have h0' : (0 : Int) ≤ k := by omega
      obtain ⟨t0, t1, t2, t3, t4, t5, t6⟩ := t
      simp only at a0 a1 a2 a3 a4 a5 a6 hcl hsh
      clear ht
      by_cases k1 : t0 = 1
      · subst k1
        rw [want_1] at HSUC
        have HLOW := Lib.hid (fun W => lower_any t2 hsh (hcl rfl) W)
        clear hcl hsh
        go_wp2_with (go_at_call 24; refine (HLOW.out _).mono ?_)
        rintro e w3 ⟨rfl, hb3⟩
        have hblk : Blk w3 wr.heap.size 53 #[.int .u8 1, .int .i64 0, .string (bs t2), .int .i64 t3, .int .i64 t4, .int .u8 t5, .int .u8 t6] := (Blk.new _ _ _).below hb3 (by simp)
        have hblk4 : Blk (w3.setCell ⟨wr.heap.size, 2, none⟩ (.string (bs (t2.map smallC)))) wr.heap.size 53 #[.int .u8 1, .int .i64 0, .string (bs (t2.map smallC)), .int .i64 t3, .int .i64 t4, .int .u8 t5, .int .u8 t6] := hblk.set_ 2 _
        have HO4 : Hid ((w3.setCell ⟨wr.heap.size, 2, none⟩ (.string (bs (t2.map smallC)))).ownsRow w2.heap.size 53 7 vv (wantTo toks k).length (toksCells (wantTo toks k))) := own_set (ownsRow_kept (HO.out.alloc _) hb3) (fun b hb => (HO.out.lt b hb).2) 2 _
        have HB4 : Hid (Below w2.heap.size w2 (w3.setCell ⟨wr.heap.size, 2, none⟩ (.string (bs (t2.map smallC))))) := ((HBR.out.alloc hsz _).trans (hb3.mono (by simp; omega))).setCell (by simpa using hsz) _
        have hc3 := hblk.cell
        have hf3 := hblk.frozen
        clear hblk hb3 HO HBR a0 a1 a2 a3 a4 a5 a6 HLOW
        go_upto_region 19 with fail
        clear hc3 hf3
        generalize w3.setCell ⟨wr.heap.size, 2, none⟩ (.string (bs (t2.map smallC))) = W4 at *
        have hc4 := hblk4.cell
        have hz4 := HB4.out.size
        clear hblk4
        go_wp2_with (at_builtin; refine wpList_append_lies _ rfl _ _ 22 rfl w2.heap.size 53 i0 _ 7 56 Tryz.underlying22 hi0 hz0 hz1 hz2 rfl (by decide) vv (wantTo toks k).length (toksCells (wantTo toks k)) (by rfl) (HO4.out.alloc _) ⟨W4.heap.size, 0, none⟩ 1 1 (tokCells { kind := 1, place := 0, text := t2.map smallC, mn := t3, mx := t4, lo := t5, hi := t6 }) (by rfl) (by rfl) (by exact news_here _ (tokCells { kind := 1, place := 0, text := t2.map smallC, mn := t3, mx := t4, lo := t5, hi := t6 }) 53 W4.heap.size rfl) ?c1 (by omega) ?c2 ?c3 ?c4 (W4.heap.size + 1) (by simp) ?_)
        case c1 => simp [tokCells, Value.oneCell']
        case c2 => unfold maxLen; omega
        case c3 => omega
        case c4 => simp; omega
        intro gg cap w5 hown5 hgrow5 _ _
        have HO5 : Hid (w5.ownsRow w2.heap.size 53 7 (.slice (some ⟨gg, 0, none⟩) ((wantTo toks k).length + 1) cap) (wantTo toks (k + 1)).length (toksCells (wantTo toks (k + 1)))) := by
          show World.ownsRow _ _ _ _ _ _ _
          rw [HSUC.out]
          exact own_snoc rfl hown5
        have HB5 : Hid (Below w2.heap.size w2 w5) := HB4.out.trans (below_grown HO4.out ((Below.refl _ _).alloc hz4 _) hz4 hgrow5)
        clear hown5 hgrow5 HO4 HB4 HSUC hc4
        go_wp2
        go_roundw
        case rel => exact ⟨k + 1, _, rfl, by omega, by go_num, HO5, HB5⟩
        case measure => simp [intOf]; omega
      · have g1 : (t0 == 1) = false := by rw [beq_eq_false_iff_ne]; exact k1
        by_cases k10 : t0 = 10
        · subst k10
          rw [want_10] at HSUC
          clear hcl hsh k1
          go_wp2_with (at_builtin; refine wpList_append_lies _ rfl _ _ 22 rfl w2.heap.size 53 i0 _ 7 56 Tryz.underlying22 hi0 hz0 hz1 hz2 rfl (by decide) vv (wantTo toks k).length (toksCells (wantTo toks k)) (by rfl) ((HO.out.alloc _).alloc _) ⟨wr.heap.size + 1, 0, none⟩ 1 1 (tokCells { kind := 10, place := 0, text := t2, mn := t3, mx := t4, lo := t5, hi := t6 }) (by rfl) (by rfl) (by exact news_here _ (tokCells { kind := 10, place := 0, text := t2, mn := t3, mx := t4, lo := t5, hi := t6 }) 53 (wr.heap.size + 1) (by simp)) ?c1 (by omega) ?c2 ?c3 ?c4 (wr.heap.size + 2) (by simp) ?_)
          case c1 => simp [tokCells, Value.oneCell']
          case c2 => unfold maxLen; omega
          case c3 => omega
          case c4 => simp; omega
          intro gg cap w5 hown5 hgrow5 _ _
          have HO5 : Hid (w5.ownsRow w2.heap.size 53 7 (.slice (some ⟨gg, 0, none⟩) ((wantTo toks k).length + 1) cap) (wantTo toks (k + 1)).length (toksCells (wantTo toks (k + 1)))) := by
            show World.ownsRow _ _ _ _ _ _ _
            rw [HSUC.out]
            exact own_snoc rfl hown5
          have HB5 : Hid (Below w2.heap.size w2 w5) := HBR.out.trans (below_grown HO.out (((Below.refl _ _).alloc hsz _).alloc (by simp; omega) _) hsz hgrow5)
          clear hown5 hgrow5 HO HBR HSUC
          go_wp2
          go_roundw
          case rel => exact ⟨k + 1, _, rfl, by omega, by go_num, HO5, HB5⟩
          case measure => simp [intOf]; omega
        by_cases k11 : t0 = 11
        · subst k11
          rw [want_11] at HSUC
          clear hcl hsh k1
          go_wp2_with (at_builtin; refine wpList_append_lies _ rfl _ _ 22 rfl w2.heap.size 53 i0 _ 7 56 Tryz.underlying22 hi0 hz0 hz1 hz2 rfl (by decide) vv (wantTo toks k).length (toksCells (wantTo toks k)) (by rfl) ((HO.out.alloc _).alloc _) ⟨wr.heap.size + 1, 0, none⟩ 1 1 (tokCells { kind := 11, place := 0, text := t2, mn := t3, mx := t4, lo := t5, hi := t6 }) (by rfl) (by rfl) (by exact news_here _ (tokCells { kind := 11, place := 0, text := t2, mn := t3, mx := t4, lo := t5, hi := t6 }) 53 (wr.heap.size + 1) (by simp)) ?c1 (by omega) ?c2 ?c3 ?c4 (wr.heap.size + 2) (by simp) ?_)
          case c1 => simp [tokCells, Value.oneCell']
          case c2 => unfold maxLen; omega
          case c3 => omega
          case c4 => simp; omega
          intro gg cap w5 hown5 hgrow5 _ _
          have HO5 : Hid (w5.ownsRow w2.heap.size 53 7 (.slice (some ⟨gg, 0, none⟩) ((wantTo toks k).length + 1) cap) (wantTo toks (k + 1)).length (toksCells (wantTo toks (k + 1)))) := by
            show World.ownsRow _ _ _ _ _ _ _
            rw [HSUC.out]
            exact own_snoc rfl hown5
          have HB5 : Hid (Below w2.heap.size w2 w5) := HBR.out.trans (below_grown HO.out (((Below.refl _ _).alloc hsz _).alloc (by simp; omega) _) hsz hgrow5)
          clear hown5 hgrow5 HO HBR HSUC
          go_wp2
          go_roundw
          case rel => exact ⟨k + 1, _, rfl, by omega, by go_num, HO5, HB5⟩
          case measure => simp [intOf]; omega
        by_cases k12 : t0 = 12
        · subst k12
          rw [want_12] at HSUC
          clear hcl hsh k1
          go_wp2_with (at_builtin; refine wpList_append_lies _ rfl _ _ 22 rfl w2.heap.size 53 i0 _ 7 56 Tryz.underlying22 hi0 hz0 hz1 hz2 rfl (by decide) vv (wantTo toks k).length (toksCells (wantTo toks k)) (by rfl) ((HO.out.alloc _).alloc _) ⟨wr.heap.size + 1, 0, none⟩ 1 1 (tokCells { kind := 12, place := 0, text := t2, mn := t3, mx := t4, lo := t5, hi := t6 }) (by rfl) (by rfl) (by exact news_here _ (tokCells { kind := 12, place := 0, text := t2, mn := t3, mx := t4, lo := t5, hi := t6 }) 53 (wr.heap.size + 1) (by simp)) ?c1 (by omega) ?c2 ?c3 ?c4 (wr.heap.size + 2) (by simp) ?_)
          case c1 => simp [tokCells, Value.oneCell']
          case c2 => unfold maxLen; omega
          case c3 => omega
          case c4 => simp; omega
          intro gg cap w5 hown5 hgrow5 _ _
          have HO5 : Hid (w5.ownsRow w2.heap.size 53 7 (.slice (some ⟨gg, 0, none⟩) ((wantTo toks k).length + 1) cap) (wantTo toks (k + 1)).length (toksCells (wantTo toks (k + 1)))) := by
            show World.ownsRow _ _ _ _ _ _ _
            rw [HSUC.out]
            exact own_snoc rfl hown5
          have HB5 : Hid (Below w2.heap.size w2 w5) := HBR.out.trans (below_grown HO.out (((Below.refl _ _).alloc hsz _).alloc (by simp; omega) _) hsz hgrow5)
          clear hown5 hgrow5 HO HBR HSUC
          go_wp2
          go_roundw
          case rel => exact ⟨k + 1, _, rfl, by omega, by go_num, HO5, HB5⟩
          case measure => simp [intOf]; omega
        by_cases hw : t0 = 10 ∨ t0 = 11 ∨ t0 = 12
        · omega
        · have g2 : (t0 == 10) = false := by rw [beq_eq_false_iff_ne]; omega
          have g3 : (t0 == 11) = false := by rw [beq_eq_false_iff_ne]; omega
          have g4 : (t0 == 12) = false := by rw [beq_eq_false_iff_ne]; omega
          have HO5 : Hid ((wr.alloc (.cells #[.int .u8 t0, .int .i64 t1, .string (bs t2), .int .i64 t3, .int .i64 t4, .int .u8 t5, .int .u8 t6] 53)).ownsRow w2.heap.size 53 7 vv (wantTo toks (k + 1)).length (toksCells (wantTo toks (k + 1)))) := by
            show World.ownsRow _ _ _ _ _ _ _
            rw [HSUC.out, wantL_no (by simp only [wants, g1, g2, g3, g4]; rfl), List.append_nil]
            exact HO.out.alloc _
          have HB5 : Hid (Below w2.heap.size w2 (wr.alloc (.cells #[.int .u8 t0, .int .i64 t1, .string (bs t2), .int .i64 t3, .int .i64 t4, .int .u8 t5, .int .u8 t6] 53))) := HBR.out.alloc hsz _
          clear HO HBR HSUC hcl hsh k1 k10 k11 k12 hw
          go_wp2
          go_roundw
          case rel => exact ⟨k + 1, _, rfl, by omega, by go_num, HO5, HB5⟩
          case measure => simp [intOf]; omega
    · obtain rfl : k = n := by omega
      have HWANT : Hid (TokRow wr vv (wantL toks)) := by
        have := TokRow.of_own HO.out
        unfold wantTo at this
        rw [List.take_of_length_le (by rw [HN.out]; exact Nat.le_refl _)] at this
        exact this
      have HRR3 := Lib.hid (HRR.out.below HBR.out)
      have HB3 := Lib.hid (HB2.out.trans (HBR.out.mono HB2.out.size))
      have hwl : (wantL toks).length ≤ k := by have := wantL_len toks; rw [HN.out] at this; exact this
      obtain ⟨Aw, cw, rfl⟩ := HWANT.out.len
      clear HO HBR HRR HROW2 HB2 HCLEAN HSHORT
      rename World => W3
      go_wp2
      have HG0 : Hid (W3.ownsRow W3.heap.size 53 7 (.slice none 0 0) (gotTo ps 0).length (toksCells (gotTo ps 0))) := World.ownsRow_nil _ _ _ _
      have HGB0 : Hid (Below W3.heap.size W3 W3) := Below.refl _ _
      go_loopw [12, 85] (fun gv i wr => ∃ (k2 : Nat) (gg : Value), gg = gv ∧ k2 ≤ m ∧ i = .int .i64 k2 ∧ Hid (wr.ownsRow W3.heap.size 53 7 gg (gotTo ps k2).length (toksCells (gotTo ps k2))) ∧ Hid (Below W3.heap.size W3 wr)) (fun _ i _ => m - (intOf i).toNat)
      case atStart => exact ⟨0, _, rfl, Nat.zero_le _, rfl, HG0, HGB0⟩
      case round =>
        clear HG0 HGB0
        obtain ⟨k2, gg, rfl, hk2, rfl, HG, HGB⟩ := hrel
        have hsz := HGB.out.size
        by_cases hlt2 : k2 < m
        · obtain ⟨xp, hx⟩ : ∃ xp, ps[k2]? = some xp := ⟨_, List.getElem?_eq_getElem (by rw [HM.out]; exact hlt2)⟩
          obtain ⟨x, sl⟩ := xp
          have hmem : (x, sl) ∈ ps := List.mem_of_getElem? hx
          have htxt : x.tree.text.length ≤ maxLen := (HRR3.out.kids _ hmem).2
          have hkid : KidsAt W3 (· < W3.heap.size) x.tree.kids sl := (HRR3.out.kids _ hmem).1
          obtain ⟨g2, off2, rfl, hg2, b0, b1, b2, b3, b4, b5, b6, b7, b8, b9, _⟩ := (HRR3.out.below HGB.out).at_ hx
          obtain ⟨hright, p, xs, hplace, hname, hle, htake, hasc⟩ := HRULES.out x (by rw [← HPS.out]; exact List.mem_map.2 ⟨_, hmem, rfl⟩)
          have HSUC := Lib.hid (gotTo_succ hx)
          simp only at b0 b1 b2 b3 b4 b5 b6 b7 b8 b9 HSUC
          rw [hplace] at b1
          have hnz : (bs x.name).size = x.name.length := bs_size _
          have hnl : x.name.length + p ≤ s.size := by rw [hname, List.length_map, ← HLEN.out]; exact hle
          obtain ⟨kp, kc, rfl, _⟩ := hkid.form
          have HGL : Hid ((gotTo ps (k2 + 1)).length ≤ k) := by
            show _ ≤ _
            have h1 : wantL toks = gotTo ps (k2 + 1) ++ (ps.drop (k2 + 1)).flatMap (fun p => ruleLeaves p.1) := by
              rw [← HFLAT.out, ← HPS.out, List.flatMap_map, gotTo, ← List.flatMap_append, List.take_append_drop]
            rw [h1, List.length_append] at hwl
            omega
          have HRT : Hid (∀ W, Below W3.heap.size W3 W → Calls Tryz.prog 15 #[.agg #[.int .u8 x.tree.kind, .string (bs x.tree.text), .int .u8 x.tree.lo, .int .u8 x.tree.hi, .int .i64 x.tree.mn, .int .i64 x.tree.mx, .slice kp x.tree.kids.length kc]] W fun e w' => e = .returned (.bool true) ∧ Below W.heap.size W w') := fun W hW => by
            have := abRight_any x.tree (.slice kp x.tree.kids.length kc) W ((hkid.under hW).mono (fun b hl hb => hl)) htxt
            rw [hright] at this
            exact this
          have HLOW := Lib.hid (fun W => lower_at s p x.name.length xs x.name hs hname rfl hle htake hasc W)
          have HLF : Hid (∀ (v : Value) (W : World), W3.heap.size ≤ W.heap.size → Below W3.heap.size W3 W → W.ownsRow W3.heap.size 53 7 v (gotTo ps k2 ++ [nameTok x.name]).length (toksCells (gotTo ps k2 ++ [nameTok x.name])) → Calls Tryz.prog 25 #[.agg #[.int .u8 x.tree.kind, .string (bs x.tree.text), .int .u8 x.tree.lo, .int .u8 x.tree.hi, .int .i64 x.tree.mn, .int .i64 x.tree.mx, .slice kp x.tree.kids.length kc], v] W fun e w2 => LeavesOut W3.heap.size W (gotTo ps (k2 + 1)) e w2) := fun v W h1 h2 h3 => by
            have h4 : gotTo ps (k2 + 1) = (gotTo ps k2 ++ [nameTok x.name]) ++ leavesT x.tree := by
              rw [HSUC.out, List.append_assoc]
              rfl
            have h5 := HGL.out
            rw [h4] at h5 ⊢
            exact leaves_any x.tree _ W3.heap.size v _ W3 W hkid (Nat.le_refl _) h1 h2 h3 (by rw [← List.length_append]; omega)
          have hmk : k2 + 1 ≤ k := Nat.le_trans (gotTo_ge ps (k2 + 1) (by rw [HM.out]; omega)) HGL.out
          have hgn : (gotTo ps k2).length ≤ k := by
            have := HGL.out
            rw [HSUC.out, List.length_append] at this
            omega
          have hlt' : (k2 : Int) < m := by omega
          have h0' : (0 : Int) ≤ k2 := by omega
          clear hx hmem htxt hkid hright hplace hname hle htake hasc
          generalize x.name.length = L at *
          go_upto_region 25 with fail
          have hblk : Blk (wr.alloc (.cells #[.string (bs x.name), .int .i64 p, .bool x.more, .int .u8 x.tree.kind, .string (bs x.tree.text), .int .u8 x.tree.lo, .int .u8 x.tree.hi, .int .i64 x.tree.mn, .int .i64 x.tree.mx, .slice kp x.tree.kids.length kc] 27)) wr.heap.size 27 #[.string (bs x.name), .int .i64 p, .bool x.more, .int .u8 x.tree.kind, .string (bs x.tree.text), .int .u8 x.tree.lo, .int .u8 x.tree.hi, .int .i64 x.tree.mn, .int .i64 x.tree.mx, .slice kp x.tree.kids.length kc] := Blk.new _ _ _
          have HG1 := Lib.hid (HG.out.alloc (.cells #[.string (bs x.name), .int .i64 p, .bool x.more, .int .u8 x.tree.kind, .string (bs x.tree.text), .int .u8 x.tree.lo, .int .u8 x.tree.hi, .int .i64 x.tree.mn, .int .i64 x.tree.mx, .slice kp x.tree.kids.length kc] 27))
          have HB4 := Lib.hid (HGB.out.alloc hsz (.cells #[.string (bs x.name), .int .i64 p, .bool x.more, .int .u8 x.tree.kind, .string (bs x.tree.text), .int .u8 x.tree.lo, .int .u8 x.tree.hi, .int .i64 x.tree.mn, .int .i64 x.tree.mx, .slice kp x.tree.kids.length kc] 27))
          have hne : ∀ b, gg.ownBlock = some b → b ≠ wr.heap.size := fun b hb => by have := (HG.out.lt b hb).2; omega
          have HNE := Lib.hid hne
          clear hne HG HGB b0 b1 b2 b3 b4 b5 b6 b7 b8 b9
          generalize wr.alloc (.cells #[.string (bs x.name), .int .i64 p, .bool x.more, .int .u8 x.tree.kind, .string (bs x.tree.text), .int .u8 x.tree.lo, .int .u8 x.tree.hi, .int .i64 x.tree.mn, .int .i64 x.tree.mx, .slice kp x.tree.kids.length kc] 27) = W4 at *
          generalize wr.heap.size = B at *
          have hBlt := hblk.lt
          have HBK := Lib.hid hblk
          have hS0 : W4.cell? ⟨B, 0, none⟩ = some (.string (bs x.name)) ∧ W4.cell? ⟨B, 1, none⟩ = some (.int .i64 p) ∧ W4.cell? ⟨B, 3, none⟩ = some (.int .u8 x.tree.kind) ∧ W4.cell? ⟨B, 4, none⟩ = some (.string (bs x.tree.text)) ∧ W4.cell? ⟨B, 5, none⟩ = some (.int .u8 x.tree.lo) ∧ W4.cell? ⟨B, 6, none⟩ = some (.int .u8 x.tree.hi) ∧ W4.cell? ⟨B, 7, none⟩ = some (.int .i64 x.tree.mn) ∧ W4.cell? ⟨B, 8, none⟩ = some (.int .i64 x.tree.mx) ∧ W4.cell? ⟨B, 9, none⟩ = some (.slice kp x.tree.kids.length kc) := ⟨hblk.cell 0, hblk.cell 1, hblk.cell 3, hblk.cell 4, hblk.cell 5, hblk.cell 6, hblk.cell 7, hblk.cell 8, hblk.cell 9⟩
          have HS0 := Lib.hid hS0
          have HSA := Lib.hid (rule_kept (Below.refl W4.heap.size W4).drew hBlt hS0)
          have HBD : Hid (Below W3.heap.size W3 W4.drew) := HB4.out.drew
          clear hblk hS0
          generalize x.tree.kids.length = kn at *
          have e1 : IntKind.i64.wrap ((p : Int) + (L : Int)) = (p : Int) + L := IntWalk.i64_in _ (by omega)
          have hp0 : (0 : Int) ≤ p := by omega
          have hpL : (p : Int) ≤ (p : Int) + L := by omega
          have hps : (p : Int) + L ≤ s.size := by omega
          have hd0 : decide ((p : Int) < 0) = false := by rw [decide_eq_false_iff_not]; omega
          have hd1 : decide ((s.size : Int) < (p : Int) + (L : Int)) = false := by rw [decide_eq_false_iff_not]; omega
          have hd2 : decide (s.size < p + L) = false := by rw [decide_eq_false_iff_not]; omega
          go_region_held3 (fun W => W.cell? ⟨B, 0, none⟩ = some (.string (bs x.name)) ∧ W.cell? ⟨B, 1, none⟩ = some (.int .i64 p) ∧ W.cell? ⟨B, 3, none⟩ = some (.int .u8 x.tree.kind) ∧ W.cell? ⟨B, 4, none⟩ = some (.string (bs x.tree.text)) ∧ W.cell? ⟨B, 5, none⟩ = some (.int .u8 x.tree.lo) ∧ W.cell? ⟨B, 6, none⟩ = some (.int .u8 x.tree.hi) ∧ W.cell? ⟨B, 7, none⟩ = some (.int .i64 x.tree.mn) ∧ W.cell? ⟨B, 8, none⟩ = some (.int .i64 x.tree.mx) ∧ W.cell? ⟨B, 9, none⟩ = some (.slice kp kn kc))
            (first | (with_reducible exact HS0.out) | (with_reducible exact HSA.out) | (with_reducible exact hS5.out) | (with_reducible exact hS6.out))
            (first | (go_at_call 15; refine (HRT.out W4.drew HBD.out).mono ?_; rintro e w5 ⟨rfl, hb5⟩; have hS5 := Lib.hid (rule_kept hb5 hBlt HSA.out); have HB5 := Lib.hid hb5; have hz5 : W4.heap.size ≤ w5.heap.size := hb5.size; clear hb5) | (go_at_call 24; refine (HLOW.out w5).mono ?_; rintro e w6 ⟨rfl, hb6⟩; have hS6 := Lib.hid (rule_kept hb6 (Nat.lt_of_lt_of_le hBlt hz5) hS5.out); have HB6 := Lib.hid hb6; clear hb6))
          have hb46 : Below W4.heap.size W4 w6 := ((Below.refl W4.heap.size W4).drew.trans HB5.out).trans (HB6.out.mono hz5)
          have HG6 := Lib.hid (ownsRow_kept HG1.out hb46)
          have hbk6 := HBK.out.below hb46 HBK.out.lt
          have hc6 := hbk6.cell
          have HBK6 := Lib.hid hbk6
          have HB36 : Hid (Below W3.heap.size W3 w6) := HB4.out.trans (hb46.mono HB4.out.size)
          have hz36 : W3.heap.size ≤ w6.heap.size := HB36.out.size
          have hB6 : B < w6.heap.size := hbk6.lt
          clear hb46 hbk6 HB5 HB6 HG1 HBK HB4 HS0 HSA hS5 hS6 HBD HRT HLOW e1 hp0 hpL hps hd0 hd1 hd2
          go_wp2_with fail
          go_region_law (first
            | (refine step_append_lies _ (by rfl) _ _ _ (by rfl) W3.heap.size 53 i0 _ 7 56 Tryz.underlying22 hi0 hz0 hz1 hz2 rfl (by omega) gg (gotTo ps k2).length (toksCells (gotTo ps k2)) (by rfl) ((HG6.out.alloc _).drew) ⟨w6.heap.size, 0, none⟩ 1 1 (tokCells (nameTok x.name)) (by rfl) (by rfl) (by exact news_at _ (tokCells (nameTok x.name)) 53 w6.heap.size rfl) (by simp [tokCells, nameTok, Value.oneCell']) (by omega) (by unfold maxLen; omega) (by omega) (by simp; omega) (w6.heap.size + 1) (by simp) ?_; intro g7 cap7 w7 hown7 hgrow7 hat7 hlt7; have hc7 := ((blk_drew (HBK6.out.alloc _)).grown hgrow7 (fun e => HNE.out _ e.symm rfl)).cell; have HO7 := Lib.hid (own_snoc rfl hown7); have HB7 := Lib.hid (HB36.out.trans (below_grown HG6.out ((Below.refl _ _).alloc hz36 _).drew hz36 hgrow7)); clear hown7 hgrow7 hat7)
            | (go_simp; go_at_call 25; refine (HLF.out _ w7 HB7.out.size HB7.out HO7.out).mono ?_; rintro e w8 ⟨v8, rfl, ho8, hb8⟩; have HO8 := Lib.hid ho8; have HB8 := Lib.hid (HB7.out.trans hb8); clear ho8 hb8))
          all_goals
            clear hc6 hc7 HO7 HB7 HG6 HBK6 HB36 HLF
            go_wp2
            go_roundw
            case rel => exact ⟨k2 + 1, _, rfl, by omega, by go_num, HO8, HB8⟩
            case measure => simp [intOf]; omega
        · obtain rfl : k2 = m := by omega
          have HGOT : Hid (TokRow wr gg (wantL toks)) := by
            have := TokRow.of_own HG.out
            rw [show gotTo ps k2 = wantL toks from by rw [gotTo, ← HM.out, List.take_length, ← HFLAT.out, ← HPS.out, List.flatMap_map]] at this
            exact this
          have HWT := Lib.hid (HWANT.out.below HGB.out)
          have HBW := Lib.hid (HB3.out.trans (HGB.out.mono HB3.out.size))
          obtain ⟨Ag, cg, rfl⟩ := HGOT.out.len
          clear HG HGB HWANT HRR3 HRULES
          generalize hwl2 : (wantL toks).length = wl at *
          go_wp2_with fail
          refine (Toks_same _ _ (wantL toks) _ (by omega) HGOT.out HWT.out).mono ?_
          rintro e w9 ⟨rfl, m9, rfl⟩
          go_wp2_with fail
          refine (HWAKE.out _ (below_drewN HBW.out _)).mono ?_
          rintro e w10 ⟨rfl, hb10⟩
          have HE := Lib.hid ((below_drewN HBW.out m9).trans (hb10.mono HBW.out.size))
          clear hb10
          go_wp2
          go_ret
          exact ⟨rfl, HE.out⟩
end Go.Proofs.YtgbipbjpeecooaaGreatDoor

/-
  AbnfLeaves answers true for every text: its walk, whole. Conditions: the tables abnf.leaves and the library's powers of ten lie where they do.
-/
namespace Go.Proofs.YtgbipbjpeecooaaGreatDoor
open Go.RowKit

set_option maxRecDepth 1000000 in
set_option maxHeartbeats 8000000 in
theorem AbnfLeaves_bad (s : ByteArray) (w : World) (hs : s.size ≤ 3000) (hlv : LeavesAt w) (hpw : PowAt w) (toks : List Tk) (er : Nat) (p : Nat) (per : Int) (hlex : (lexP s.data.toList).1 = toks ∧ (lexP s.data.toList).2.2 = er) (hpar : parseP toks = ([], (p : Int), per)) (hp : p ≤ s.size) (hor : ¬ er = 0 ∨ ¬ per = 0) (hor2 : per = 0 ∨ er = 0) :
    Calls Tryz.prog 6 #[.string s] w fun e w' => e = .returned (.bool true) ∧ Below w.heap.size w w' := by
  have hll : s.data.toList.length ≤ 65536 := by rw [listLen]; omega
  have hcount := lexP_len s.data.toList
  rw [listLen] at hcount
  have hshort := lex_short _ hll
  have HLX := Lib.hid (fun W => Lex_any s W)
  have HWAKE : Hid (∀ W, Below w.heap.size w W → Calls Tryz.prog 10 #[] W fun e w' => e = .returned (.bool true) ∧ Below W.heap.size W w') := fun W hW => awake_any W (hlv.below hW hlv.lt) (hpw.below hW hpw.lt)
  have HLV : Hid (∀ W, Below w.heap.size w W → LeavesAt W) := fun W hW => hlv.below hW hlv.lt
  clear hlv hpw hll
  generalize lexP s.data.toList = X at *
  obtain ⟨toks0, pl, er0⟩ := X
  simp only at hlex hcount hshort
  obtain ⟨rfl, rfl⟩ := hlex
  have HPR : Hid (∀ (W : World) (A : Option Addr) (c : Nat), TokRow W (.slice A toks0.length c) toks0 → (∀ a, A = some a → a.block < W.heap.size) → LeavesAt W → Calls Tryz.prog 12 #[.slice A toks0.length c] W fun e w' => ParseOut W ([], (p : Int), per) e w') := fun W A c h1 h2 h3 => by
    have := Parse_any W A _ c toks0 h1 rfl h2 (by omega) h3 hshort
    rw [hpar] at this
    exact this
  clear hpar hshort
  have hp' : (p : Int) ≤ s.size := by omega
  have hp0 : (0 : Int) ≤ p := by omega
  by_cases her : er0 = 0
  · subst her
    have hpn : ¬ per = 0 := by omega
    have hpe : (per == 0) = false := by rw [beq_eq_false_iff_ne]; exact hpn
    have hpe2 : (per != 0) = true := by rw [bne_iff_ne]; exact hpn
    clear hor hor2
    go_enter Tryz.func6, Tryz.ntmps6
    go_wp2_with (go_at_call 11; refine (HLX.out _).mono ?_)
    rintro e w1 ⟨v, rfl, hown, hb1⟩
    have hrow := TokRow.of_own hown
    obtain ⟨A, c, rfl⟩ := hrow.len
    have HP1 := Lib.hid (HPR.out w1 A c hrow (own_far hown) (HLV.out _ hb1))
    have HB1 := Lib.hid hb1
    clear hrow hown hb1 HPR HLX HLV
    go_wp2_with (go_at_call 12; refine HP1.out.mono ?_)
    rintro e w2 ⟨v2, rfl, hr2, hb2⟩
    obtain ⟨⟨ps, hps, hown2, hkids2⟩⟩ := hr2
    have hp0 : ps = [] := by simpa using hps
    subst hp0
    obtain ⟨A2, c2, rfl, _⟩ := (RRow.of_own hown2 hkids2).row
    have HB2 := Lib.hid (HB1.out.trans (hb2.mono HB1.out.size))
    clear hown2 hkids2 hb2 hps HP1 HB1
    go_wp2_with fail
    refine (HWAKE.out _ HB2.out).mono ?_
    rintro e w3 ⟨rfl, hb3⟩
    have HB3 := Lib.hid (HB2.out.trans (hb3.mono HB2.out.size))
    clear hb3
    go_wp2
    go_ret
    exact ⟨rfl, HB3.out⟩
  · have hpn : per = 0 := by omega
    subst hpn
    have he' : ((er0 : Int) == 0) = false := by rw [beq_eq_false_iff_ne]; omega
    have he'' : ((er0 : Int) != 0) = true := by rw [bne_iff_ne]; omega
    clear hor hor2
    go_enter Tryz.func6, Tryz.ntmps6
    go_wp2_with (go_at_call 11; refine (HLX.out _).mono ?_)
    rintro e w1 ⟨v, rfl, hown, hb1⟩
    have hrow := TokRow.of_own hown
    obtain ⟨A, c, rfl⟩ := hrow.len
    have HP1 := Lib.hid (HPR.out w1 A c hrow (own_far hown) (HLV.out _ hb1))
    have HB1 := Lib.hid hb1
    clear hrow hown hb1 HPR HLX HLV
    go_wp2_with (go_at_call 12; refine HP1.out.mono ?_)
    rintro e w2 ⟨v2, rfl, hr2, hb2⟩
    obtain ⟨⟨ps, hps, hown2, hkids2⟩⟩ := hr2
    have hp0 : ps = [] := by simpa using hps
    subst hp0
    obtain ⟨A2, c2, rfl, _⟩ := (RRow.of_own hown2 hkids2).row
    have HB2 := Lib.hid (HB1.out.trans (hb2.mono HB1.out.size))
    clear hown2 hkids2 hb2 hps HP1 HB1
    go_wp2_with fail
    refine (HWAKE.out _ HB2.out).mono ?_
    rintro e w3 ⟨rfl, hb3⟩
    have HB3 := Lib.hid (HB2.out.trans (hb3.mono HB2.out.size))
    clear hb3
    go_wp2
    go_ret
    exact ⟨rfl, HB3.out⟩

set_option maxRecDepth 1000000 in
set_option maxHeartbeats 4000000 in
theorem AbnfLeaves_any (s : ByteArray) (w : World) (hmax : s.size ≤ maxLen) (hlv : LeavesAt w) (hpw : PowAt w) :
    Calls Tryz.prog 6 #[.string s] w fun e w' => e = .returned (.bool true) ∧ Below w.heap.size w w' := by
  unfold maxLen at hmax
  by_cases hlong : 3000 < s.size
  · have HW := Lib.hid (awake_any w hlv hpw)
    clear hlv hpw
    go_enter Tryz.func6, Tryz.ntmps6
    go_wp2_with fail
    refine HW.out.mono ?_
    rintro e w1 ⟨rfl, hb⟩
    go_wp2
    go_ret
    exact ⟨rfl, hb⟩
  · have hs : s.size ≤ 3000 := by omega
    have hll : s.data.toList.length ≤ 65536 := by rw [listLen]; omega
    by_cases he : (lexP s.data.toList).2.2 = 0
    · by_cases hp : (parseP (lexP s.data.toList).1).2.2 = 0
      · exact AbnfLeaves_ok s w hs hlv hpw he hp
      · obtain ⟨h1, p, h2, h3⟩ := leaves_bad _ hll he hp
        refine AbnfLeaves_bad s w hs hlv hpw _ 0 p (parseP (lexP s.data.toList).1).2.2 ⟨rfl, he⟩ ?_ (by rw [listLen] at h3; exact h3) (.inr hp) (.inr rfl)
        rw [← h1, ← h2]
    · obtain ⟨h1, _⟩ := (lex_whole _ hll).2 he
      exact AbnfLeaves_bad s w hs hlv hpw [] _ 0 0 ⟨h1, rfl⟩ parse_nil (Nat.zero_le _) (.inl he) (.inl rfl)
end Go.Proofs.YtgbipbjpeecooaaGreatDoor

/-
  The last step of a statement where the call made memory of its own: what the statement asks, out of 'nothing that was there has changed'. No conditions.
-/
namespace Go.Proofs.YtgbipbjpeecooaaGreatDoor
open Go.RowKit Go.WideShapes Go.ChangeShapes

section
variable {H : Type} {enc : TypeId × Value → H} {P : Program}
theorem post_of_below {f : Func} {s : ChangeSpec} {apart fresh handsOn again : Bool} {W W' : World} {args : Array Value} {v : Value} {ds gs : List (DataW H)} {before pa pv : List MemPlace}
    (hW : DataW.Whole enc P f.params.toList s.vars apart W args.toList ds gs before)
    (hres : ∀ (b : Nat) (sp : Nat → Bool) (hd : Bool), DataW.TrodAll enc P W' b sp hd f.resultTypes.toList (v.resultList f.resultTypes.size) (s.fn H (ds ++ gs)).results [])
    (hargs : ∀ sp : Nat → Bool, (∀ p ∈ before, sp p.block = true) → DataW.TrodAll enc P W' 0 sp true f.params.toList args.toList (s.fn H (ds ++ gs)).args pa)
    (hvars : ∀ sp : Nat → Bool, (∀ p ∈ before, sp p.block = true) → DataW.TrodVars enc P W' sp s.vars (s.fn H (ds ++ gs)).vars pv)
    (hps : before = pa ++ pv) (hb : Below W.heap.size W W')
    (hok : ∀ (j : Nat) (t : TypeId) (r : Value), f.resultTypes[j]? = some t → (v.resultList f.resultTypes.size)[j]? = some r → Value.okWide P W' .any 0 t r) :
    s.post enc P f apart fresh handsOn again W args v W' := by
  have hlt : ∀ p ∈ before, p.block < W.heap.size := fun p hp => hW.lt p hp
  have hold : ∀ p ∈ before, (fun b => decide (b < W.heap.size)) p.block = true := fun p hp => by simpa using hlt p hp
  refine ⟨ds, gs, before, [], pa, pv, hW, hres _ _ _, hargs _ hold, hvars _ hold, World.keptBut_mono (fun p hp => ⟨hp, ?_⟩) (hb.frame (· ∈ before)), fun _ => ?_⟩
  · rw [hps, List.mem_append] at hp
    exact Or.inr hp
  · obtain ⟨_, _, _, _, _, hz, hn⟩ := hW
    refine ⟨hok, _, _, ([] ++ pa) ++ pv, ⟨[] ++ pa, pv, trodAll_append (hargs _ (fun _ _ => rfl)) (hres _ _ _), hvars _ (fun _ _ => rfl), rfl, ?_, ?_⟩, ?_⟩
    · intro b off hp
      have hin : MemPlace.cell b off ∈ before := by rw [hps]; simpa using hp
      rw [hb.frozen (hlt _ hin)]
      exact hz b off hin
    · intro ha
      have := hn ha
      rw [hps] at this
      simpa using this
    · intro p hp _
      rw [hps]
      simpa using hp
end
end Go.Proofs.YtgbipbjpeecooaaGreatDoor

/-
  AbnfLeaves answers true for every text, and leaves the text as it was: the row, and the tied card. Conditions: the listed tables as the program's text lays them (the card ties them).
-/
namespace Go.Proofs.YtgbipbjpeecooaaGreatDoor.abnfLeaves
open Go.ChangeShapes Go.WideShapes Go.ChangeAt Go.RowKit
open Go.ChangeMaps (open_string shut_string)
theorem own : ownKnob Tryz.prog.godebug = none := by kernel_rfl
theorem gLeaves : Tryz.prog.globalNamed "franking/abnf.leaves" = some 4 := by kernel_rfl
theorem gPow : Tryz.prog.globalNamed "internal/strconv.uint64pow10" = some 5 := by kernel_rfl
theorem leavesAt_of {W : World} (h : Lib.TabIs Tryz.prog W "franking/abnf.leaves" .u8 leafTab) : LeavesAt W := by
  intro i k hk
  obtain ⟨hi, e⟩ := List.getElem?_eq_some_iff.1 hk
  have := h.cell gLeaves i hi
  rw [List.getD_eq_getElem?_getD, hk] at this
  exact this
theorem tabs_of_laid {W : World} (h : laidMetH Tryz.prog Rows.abnfLeavesRow.laid W) : Lib.TabIs Tryz.prog W "franking/abnf.leaves" .u8 leafTab ∧ Lib.TabIs Tryz.prog W "internal/strconv.uint64pow10" .u64 Lib.pow10Tab := by
  rw [MakeChecks.laidMetH_plain _ _ _ (by kernel_rfl)] at h
  have h' : laidMet Tryz.prog [("math/bits.deBruijn32tab", Rows.laid_math_bits_deBruijn32tab), ("math/bits.deBruijn64tab", Rows.laid_math_bits_deBruijn64tab), ("internal/strconv.uint64pow10", Rows.laid_internal_strconv_uint64pow10), ("unicode/utf8.acceptRanges", Rows.laid_unicode_utf8_acceptRanges), ("franking/abnf.leaves", Rows.laid_franking_abnf_leaves), ("unicode.CaseRanges", Rows.laid_unicode_CaseRanges), ("unicode/utf8.first", Rows.laid_unicode_utf8_first)] W := h
  have h3 := h'.tail.tail
  have h5 := h3.tail.tail
  exact ⟨Lib.tabIs_of_head (zs := leafTab) gLeaves (t := 181) (by kernel_rfl) Tryz.underlying181 Tryz.underlying5 (by kernel_rfl) (by kernel_rfl) h5, Lib.tabIs_of_head (zs := Lib.pow10Tab) gPow (t := 200) (by kernel_rfl) Tryz.underlying200 Tryz.underlying144 (by kernel_rfl) (by kernel_rfl) h3⟩

set_option maxRecDepth 100000 in
theorem lifted (os : Os) (started : os.Started) (H : Type) (enc : TypeId × Value → H) :
    ReturnsInHanded {} Tryz.checked os 6 .any (fun w args => (Rows.abnfLeavesSpec.pre enc Tryz.prog Tryz.f6 Rows.abnfLeavesRow.domain false w args ∧ laidMetH Tryz.prog Rows.abnfLeavesRow.laid w) ∧ sizedMet enc Tryz.prog Tryz.f6 (OpenSpec.ofChange Rows.abnfLeavesSpec) false w args)
      (Rows.abnfLeavesSpec.post enc Tryz.prog Tryz.f6 false true false false) := by
  refine returnsInHanded_of_change_and (C := Tryz.checked) (X := fun w _ => laidMetH Tryz.prog Rows.abnfLeavesRow.laid w) (fun _ _ _ hh h => h.of_heap hh) own started (by kernel_rfl) Tryz.func6
    (ChangeSpec.witness_shaped (enc := enc) (C := Tryz.checked) (os := os) (X := fun w _ => laidMetH Tryz.prog Rows.abnfLeavesRow.laid w) false (World.laidAll Tryz.prog os Rows.abnfLeavesRow.laid) #[.string .empty] 8 (World.laidAll_os _ _ _)
      (World.shaped_of_ZipB (by kernel_rfl) (by kernel_rfl)) (by kernel_rfl) (by kernel_rfl) (by kernel_rfl)
      (by rw [MakeChecks.laidMetH_plain _ _ _ (by kernel_rfl)]; exact laidMet_laidAll _ (by kernel_rfl) (by kernel_rfl))) ?_
  intro W base args ds gs before hval0 hW _ _ hL _
  have hval : ∀ (j : Nat) t v, Tryz.f6.params[j]? = some t → args[j]? = some v → Value.okWide Tryz.prog W .any base t v := hval0
  have hW' := hW
  obtain ⟨p, q, hA0, hV, rfl, _, _⟩ := hW
  have hA : DataW.TrodAll enc Tryz.prog W 0 (fun _ => true) true Tryz.f6.params.toList args.toList ds p := hA0
  rw [Tryz.params6] at hA hval
  obtain ⟨v0, vs0, d0, ds0, p0, q0, hargs, rfl, rfl, h0, r0⟩ := trodAll_cons hA
  obtain ⟨rfl, rfl, rfl⟩ := trodAll_nil r0
  obtain rfl : args = #[v0] := by cases args; simp_all
  obtain ⟨rfl, rfl⟩ := trodVars_none hV
  obtain ⟨s, rfl, rfl, rfl, hmax⟩ := open_string Tryz.underlying9 (hval 0 9 v0 rfl rfl) h0
  obtain ⟨ht1, ht2⟩ := tabs_of_laid hL
  clear hA0
  simp only [List.append_nil] at hW'
  refine (AbnfLeaves_any s W hmax (leavesAt_of ht1) ht2).mono fun e W' ⟨he, hb⟩ => ?_
  subst he
  exact ⟨_, rfl, post_of_below (pa := []) (pv := []) hW' (fun _ _ _ => trodAll_cons_mk (shut_bool Tryz.underlying4 _) trodAll_mk0) (fun _ _ => trodAll_cons_mk (shut_string Tryz.underlying9 hmax) trodAll_mk0) (fun _ _ => rfl) rfl
    hb (ok_one (by kernel_rfl) rfl (okWide_bool_mk Tryz.underlying4 _))⟩

theorem holds : Rows.AbnfLeavesSaid :=
  OpenClaim.holds_of_wide 6 Tryz.f6 rfl rfl rfl rfl rfl rfl rfl ⟨rfl, rfl, rfl, rfl, rfl⟩ rfl rfl rfl rfl rfl (by kernel_rfl) Tryz.func6 (by kernel_rfl)
    (of_decide_eq_true (by kernel_rfl)) (by unfold Func.isWrapper; first | (rw [if_pos (by decide +kernel)]; kernel_rfl) | (rw [if_neg (by decide +kernel)]; exact ⟨rfl, rfl⟩))
    (fun os started H enc _ => lifted os started H enc)
theorem card_holds : Rows.AbnfLeavesCardSaid :=
  Claim7.holds_tied_plain_at .later [] [.data, .data, .data, .data, .data, .pinned, .pinned] true Rows.abnfLeavesCard.stood.harness false holds (fun _ h => by cases h) (by kernel_rfl) (fun _ h => by cases h) abnfLeaves_row_tie rfl ⟨rfl, rfl⟩ (by kernel_rfl) rfl
    (fun f fn hf hfn => by
      obtain rfl : f = 6 := Option.some.inj ((show Tryz.prog.funcNamed "franking/frankinglaw02.AbnfLeaves" = some 6 by kernel_rfl).symm.trans hf) |>.symm
      obtain rfl : fn = Tryz.f6 := (Option.some.inj (Tryz.func6.symm.trans hfn)).symm
      exact ⟨by kernel_rfl, fun j t ht => by
        rw [Tryz.params6] at ht
        have hm : t ∈ [9] := by simpa using Array.mem_of_getElem? ht
        have hall : ([9].all fun u => !Tryz.prog.wantsStandIn u) = true := by kernel_rfl
        exact (show Tryz.prog.wantsStandIn t = false by simpa using List.all_eq_true.1 hall t hm)⟩)
    (by kernel_rfl)
end Go.Proofs.YtgbipbjpeecooaaGreatDoor.abnfLeaves
