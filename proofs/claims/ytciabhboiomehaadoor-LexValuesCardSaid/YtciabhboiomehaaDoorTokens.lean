/-
  The contract of lex's takeTokens: the tokens of a line. Conditions: the lexer's state in memory; at most 100000 tokens; a line of at most 65536 bytes.
-/
import Derived.Test.YtciabhboiomehaaDoorLexer
import Derived.Test.YtciabhboiomehaaDoorPure
namespace Go.Proofs.YtciabhboiomehaaDoor
open Go.RowKit

theorem drop_ne {l : List UInt8} {k : Nat} (h : k < l.length) : l.drop k ≠ [] := by
  intro e
  have := congrArg List.length e
  simp at this
  omega

theorem news_at (W : World) (cs : List Value) (t : TypeId) (B : Nat) (hB : B = W.heap.size) : ∀ j u, cs[j]? = some u → (W.alloc (.cells cs.toArray t)).drew.cell? ((⟨B, 0, none⟩ : Addr).add j) = some u := by
  subst hB
  intro j u hj
  exact World.news_of_block (w := (W.alloc (.cells cs.toArray t)).drew) (cs := cs.toArray) (t := t) (fr := (0, 0)) (heap_alloc_new _ _) j u (by simpa using hj)
theorem lexAt_blk_grown {w w2 : World} {g base N : Nat} {v : Value} {toks : List Tk} {o : Bool} (h : LexAt w g base N v toks o) (hgrow : w.grownBy w2 v.ownBlock) : Blk w2 g 54 #[.slice (some ⟨N + 31, 0, none⟩) 15 15, v, .bool o] :=
  h.blk.grown hgrow (fun e => by have := (h.own.lt g e.symm).1; have := h.hg; omega)
theorem LexAt.drew {w : World} {g base N : Nat} {v : Value} {toks : List Tk} {o : Bool} (h : LexAt w g base N v toks o) : LexAt w.drew g base N v toks o := h.later (Below.refl _ _).drew
theorem LexAt.alloc {w : World} {g base N : Nat} {v : Value} {toks : List Tk} {o : Bool} (h : LexAt w g base N v toks o) (ob : Obj) : LexAt (w.alloc ob) g base N v toks o := h.later ((Below.refl _ _).alloc (Nat.le_refl _) _)

set_option maxRecDepth 100000 in
set_option maxHeartbeats 4000000 in
theorem takeTokens_any (s : ByteArray) (g base N start : Nat) (v : Value) (toks : List Tk) (o : Bool) (hs : s.size ≤ 65536) (hst : start ≤ 70000) (hn : toks.length + s.size ≤ 200000) (w : World) (h : LexAt w g base N v toks o) :
    Calls Tryd.prog 50 #[.pointer (some ⟨g, 0, none⟩), .string s, .int .i64 start] w fun e w' =>
      e = .returned (.tuple #[.int .i64 (tokensP s.data.toList start toks).2.1, .int .i64 (tokensP s.data.toList start toks).2.2]) ∧ (∃ v', LexAt w' g base N v' (tokensP s.data.toList start toks).1 o) ∧
      (tokensP s.data.toList start toks).1.length ≤ toks.length + s.size ∧ Below g w w' := by
  obtain ⟨i0, hi0, hz0, hz1, hz2⟩ := info_parts Tryd.infoTok
  have HLEN := Lib.hid (listLen s)
  have HR0 : Hid (tokensP s.data.toList start toks = tokensF s.data.toList start (s.data.toList.length + 1) 0 toks) := show _ = _ from rfl
  generalize tokensP s.data.toList start toks = R at *
  go_enter Tryd.func50, Tryd.ntmps50
  go_wp2
  go_loopw [8] (fun i wr => ∃ (k f : Nat) (tk : List Tk) (vv : Value), k ≤ s.size ∧ i = .int .i64 k ∧ LexAt wr g base N vv tk o ∧ tk.length ≤ toks.length + k ∧ Below g w wr ∧ s.size < f + k ∧ Hid (R = tokensF s.data.toList start f k tk)) (fun i _ => s.size - (intOf i).toNat)
  case atStart => exact ⟨0, s.data.toList.length + 1, toks, v, Nat.zero_le _, rfl, h, by omega, Below.refl _ _, by rw [HLEN.out]; omega, HR0⟩
  case round =>
    clear HR0 h
    obtain ⟨k, f, tk, vv, hk, rfl, h, htk, hbel, hfk, HR⟩ := hrel
    by_cases hlt : k < s.size
    · have hx : (s.extract k s.size).data.toList = s.data.toList.drop k := by
        rw [extract_list, List.take_of_length_le (by rw [List.length_drop, listLen]; omega)]
      have hkl : k < s.data.toList.length := by rw [HLEN.out]; exact hlt
      have hfit := fits_read _ (drop_ne hkl)
      rw [Fits, List.length_drop, HLEN.out] at hfit
      have HRP := Lib.hid (fun (h : LexAt wr g base N vv tk o) => readPiece_any (s.extract k s.size) g N vv o (by simp; omega) (by simp; omega) wr h.starts (by have := h.hN; have := h.hg; have := h.hbase; omega) h.blk)
      rw [hx] at HRP
      clear hx
      have HE := Lib.hid (fun he => tokensF_err (toks := tk) (start := start) (show s.data.toList.length < f + k from by rw [HLEN.out]; exact hfk) hkl he)
      have HG := Lib.hid (fun f he => tokensF_go (toks := tk) (start := start) (f := f) hkl he)
      clear hkl
      generalize readP (s.data.toList.drop k) = p at *
      go_wp2_with fail
      refine (HRP.out h).mono ?_
      rintro e w1 ⟨rfl, hb1⟩
      clear HRP
      have h1 := h.later hb1
      have hbel1 : Below g w w1 := hbel.trans (hb1.mono (by have := h.hg; have := h.hbase; omega))
      clear h hbel hb1
      unfold pieceV
      by_cases he : p.err = 0
      · obtain ⟨f, rfl⟩ : ∃ f', f = f' + 1 := ⟨f - 1, by omega⟩
        have HR' := HR.out
        rw [HG.out f he] at HR'
        have hsz := hfit.2.1 he
        have he' : ((p.err : Int) == 0) = true := by
          rw [beq_iff_eq]
          omega
        have he'' : ((p.err : Int) != 0) = false := by
          rw [bne_eq_false_iff_eq]
          omega
        have HEE := Lib.hid he
        clear HE HG HR he
        by_cases hkd : p.tok.kind = 0
        · rw [if_neg (by simp [hkd])] at HR'
          have HRR := Lib.hid HR'
          have hkd' : (p.tok.kind == 0) = true := by
            rw [beq_iff_eq]
            exact hkd
          have hkd'' : (p.tok.kind != 0) = false := by
            rw [bne_eq_false_iff_eq]
            exact hkd
          clear HR' hkd
          go_wp2
          go_roundw
          case rel => exact ⟨k + p.size, f, tk, vv, by omega, by go_num, h1.later ((Below.refl _ _).alloc (Nat.le_refl _) _), by omega, hbel1.alloc (by have := h1.hg; have := h1.hbase; omega) _, by omega, HRR⟩
          case measure => simp [intOf]; omega
        · rw [if_pos hkd] at HR'
          have HRR := Lib.hid HR'
          have hkd' : (p.tok.kind == 0) = false := by
            rw [beq_eq_false_iff_ne]
            exact hkd
          have hkd'' : (p.tok.kind != 0) = true := by
            rw [bne_iff_ne]
            exact hkd
          clear HR' hkd
          have hc1 := h1.blk.cell
          have hf1 := h1.blk.frozen
          have hlt1 := h1.blk.lt
          go_wp2
          go_region_law (refine step_append_lies _ (by rfl) _ _ _ (by rfl) base 35 i0 _ 7 56 Tryd.underlying30 hi0 hz0 hz1 hz2 rfl (by omega) vv tk.length (toksCells tk) (by rfl) (((h1.own.alloc _).alloc _).drew) ⟨w1.heap.size + 1, 0, none⟩ 1 1 (tokCells { p.tok with place := (start : Int) + k }) (by rfl) (by rfl) (by exact news_at _ (tokCells { p.tok with place := (start : Int) + k }) 35 (w1.heap.size + 1) (by simp)) (by simp [tokCells, Value.oneCell']) (by omega) (by unfold maxLen; omega) (by omega) (by have := h1.hbase; simp; omega) (w1.heap.size + 2) (by simp) ?_; intro gg cap w2 hown2 hgrow2 hat2 hlt2; have hb2 := lexAt_blk_grown (((h1.alloc _).alloc _).drew) hgrow2; have hc2 := hb2.cell; have hf2 := hb2.frozen; clear hb2)
          all_goals
            have hp1 : Blk ((w1.alloc (.cells (pieceCells { p with tok := { p.tok with place := (start : Int) + k } }) 100)).alloc (.cells (tokCells { p.tok with place := (start : Int) + k }).toArray 35)).drew w1.heap.size 100 (pieceCells { p with tok := { p.tok with place := (start : Int) + k } }) := (Blk.new w1 _ _).alloc _
            have hp2 := hp1.grown hgrow2 (fun e => by have := (h1.own.lt _ e.symm).2; omega)
            have hp2c := hp2.cell
            unfold pieceCells at hp2c
            clear hp1 hp2
            have hput := (((h1.alloc _).alloc _).drew).put hown2 hgrow2
            have hbel2 : Below g w _ := ((hbel1.alloc (by have := h1.hg; have := h1.hbase; omega) _).alloc (by have := h1.hg; have := h1.hbase; simp; omega) _).drew.trans hput.2
            have HPUT := Lib.hid hput
            have HBEL := Lib.hid hbel2
            clear hput hbel2 hown2 hgrow2 hat2
            go_wp2
            go_roundw
            case rel => exact ⟨k + p.size, f, _, _, by omega, by go_num, HPUT.out.1, by simp; omega, HBEL.out, by omega, HRR⟩
            case measure => simp [intOf]; omega
      · have HR' : Hid (R = (tk, start + k + p.bad, p.err)) := by
          show R = _
          rw [HR.out, HE.out he]
        have he' : ((p.err : Int) == 0) = false := by
          rw [beq_eq_false_iff_ne]
          omega
        have he'' : ((p.err : Int) != 0) = true := by
          rw [bne_iff_ne]
          omega
        clear HE HG HR
        have hbad := hfit.1
        have e1 : IntKind.i64.wrap ((start : Int) + k) = (start : Int) + k := IntWalk.i64_in _ (by omega)
        have e2 : IntKind.i64.wrap ((start : Int) + k + p.bad) = (start : Int) + k + p.bad := IntWalk.i64_in _ (by omega)
        go_wp2
        go_region
        clear e1 e2
        go_wp2
        go_ret2
        refine ⟨by rw [HR'.out]; simp, ⟨vv, ?_⟩, by rw [HR'.out]; show tk.length ≤ _; omega, ?_⟩
        · rw [HR'.out]
          exact h1.later (((Below.refl _ _).alloc (Nat.le_refl _) _).drew)
        · exact (hbel1.alloc (by have := h1.hg; have := h1.hbase; omega) _).drew
    · have HR' : Hid (R = (tk, 0, 0)) := by
        show R = _
        rw [HR.out, tokensF_end (by rw [HLEN.out]; omega)]
      clear HR
      go_wp2
      go_ret2
      refine ⟨by rw [HR'.out]; simp, ⟨vv, ?_⟩, by rw [HR'.out]; show tk.length ≤ _; omega, hbel⟩
      rw [HR'.out]
      exact h
end Go.Proofs.YtciabhboiomehaaDoor
