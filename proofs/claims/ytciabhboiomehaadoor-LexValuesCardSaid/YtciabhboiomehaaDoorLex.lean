/-
  The contract of lex.Lex: its tokens, or its first error and that error's place, are what lexP tells, for every text. No conditions.
-/
import Derived.Test.YtciabhboiomehaaDoorLines
namespace Go.Proofs.YtciabhboiomehaaDoor
open Go.RowKit

def closed (l : List UInt8) (toks : List Tk) (o : Bool) : List Tk := if o = true then toks ++ [endTok l.length] else toks
/-- the lines from a place on: the tokens, and the place and the number of an error, or 0, 0 -/
def lexF (l : List UInt8) : Nat → Nat → List Tk → Bool → List Tk × Nat × Nat
  | 0, _, toks, o => (closed l toks o, 0, 0)
  | f + 1, k, toks, o =>
    if l.length ≤ k then (closed l toks o, 0, 0)
    else if (lineP (cutP l k).1 k toks o).err ≠ 0 then ([], (lineP (cutP l k).1 k toks o).place, (lineP (cutP l k).1 k toks o).err)
    else lexF l f (cutP l k).2 (lineP (cutP l k).1 k toks o).toks (lineP (cutP l k).1 k toks o).opened
/-- what a text is -/
def lexP (l : List UInt8) : List Tk × Nat × Nat := if 65536 < l.length then ([], 65536, 3) else lexF l (l.length + 1) 0 [] false

theorem lexF_end {l : List UInt8} {f k : Nat} {toks : List Tk} {o : Bool} (h : l.length ≤ k) : lexF l f k toks o = (closed l toks o, 0, 0) := by
  cases f with
  | zero => rfl
  | succ f => rw [lexF, if_pos h]
theorem lexF_err {l : List UInt8} {f k : Nat} {toks : List Tk} {o : Bool} (hf : l.length < f + k) (h : k < l.length) (he : (lineP (cutP l k).1 k toks o).err ≠ 0) :
    lexF l f k toks o = ([], (lineP (cutP l k).1 k toks o).place, (lineP (cutP l k).1 k toks o).err) := by
  cases f with
  | zero => omega
  | succ f => rw [lexF, if_neg (by omega), if_pos he]
theorem lexF_go {l : List UInt8} {f k : Nat} {toks : List Tk} {o : Bool} (h : k < l.length) (he : (lineP (cutP l k).1 k toks o).err = 0) :
    lexF l (f + 1) k toks o = lexF l f (cutP l k).2 (lineP (cutP l k).1 k toks o).toks (lineP (cutP l k).1 k toks o).opened := by
  rw [lexF, if_neg (by omega), if_neg (by simp [he])]
theorem trimSuffix_le (l t : List UInt8) : (Lib.trimSuffix l t).length ≤ l.length := by
  unfold Lib.trimSuffix
  split
  · rw [List.length_take]; omega
  · exact Nat.le_refl _
theorem cutP_bd (l : List UInt8) (k : Nat) (h : k < l.length) : (cutP l k).1.length + k ≤ (cutP l k).2 ∧ k < (cutP l k).2 ∧ (cutP l k).2 ≤ l.length := by
  have hb := indexByte_bd (l.drop k) 10
  rw [List.length_drop] at hb
  unfold cutP
  split
  · simp only [List.length_drop]; omega
  · have := trimSuffix_le ((l.drop k).take (Lib.indexByte (l.drop k) 10).toNat) [13]
    rw [List.length_take, List.length_drop] at this
    simp only
    omega
theorem bs_size (l : List UInt8) : (bs l).size = l.length := by show (l.toArray).size = _; simp

theorem ownsRow_mono {w : World} {base base' : Nat} {e : TypeId} {size : Nat} {v : Value} {n : Nat} {xs : List Value} (h : w.ownsRow base e size v n xs) (hb : base' ≤ base) : w.ownsRow base' e size v n xs := by
  refine ⟨h.1, ?_⟩
  rcases h.2 with hn | ⟨g, cap, cur, hv, hg, r⟩
  · exact .inl hn
  · exact .inr ⟨g, cap, cur, hv, by omega, r⟩

/-- what Lex hands back: the tokens in memory of its own -/
def Handed (w w' : World) (R : List Tk × Nat × Nat) (e : Ending) : Prop :=
  ∃ v, e = .returned (.tuple #[v, .int .i64 R.2.1, .int .i64 R.2.2]) ∧ w'.ownsRow w.heap.size 35 7 v R.1.length (toksCells R.1) ∧ Below w.heap.size w w'

set_option maxHeartbeats 4000000 in
theorem Lex_any (s : ByteArray) (w : World) :
    Calls Tryd.prog 8 #[.string s] w fun e w' => Handed w w' (lexP s.data.toList) e := by
  have HLEN := Lib.hid (listLen s)
  have HL := lexP.eq_1 s.data.toList
  rw [HLEN.out] at HL
  generalize lexP s.data.toList = R at *
  by_cases hlong : 65536 < s.size
  · rw [if_pos hlong] at HL
    have HR := Lib.hid HL
    clear HL
    go_enter Tryd.func8, Tryd.ntmps8
    go_wp2
    go_ret3
    refine ⟨.slice none 0 0, by rw [HR.out]; rfl, ?_, Below.refl _ _⟩
    rw [HR.out]
    exact World.ownsRow_nil _ _ _ _
  · rw [if_neg hlong] at HL
    have HR0 := Lib.hid HL
    have hs : s.size ≤ 65536 := by omega
    clear HL hlong
    go_enter Tryd.func8, Tryd.ntmps8
    go_wp2_with fail
    refine (starts_any _).mono ?_
    rintro e w1 ⟨rfl, hw1⟩
    have hS1 : StartsAt w1 w.heap.size := by rw [hw1]; exact startsAt_allocs w
    have hB1 : Below w.heap.size w w1 := by rw [hw1]; exact allocs_below _ _
    have hz1 : w1.heap.size = w.heap.size + 32 := by
      rw [hw1, allocs_heap, Array.size_append]
      rfl
    clear hw1
    have hB2 : Below w.heap.size w (w1.alloc (.cells #[.slice (some ⟨w.heap.size + 31, 0, none⟩) 15 15, .slice none 0 0, .bool false] 54)) := hB1.alloc hB1.size _
    have hl0 : LexAt (w1.alloc (.cells #[.slice (some ⟨w.heap.size + 31, 0, none⟩) 15 15, .slice none 0 0, .bool false] 54)) w1.heap.size (w1.heap.size + 1) w.heap.size (.slice none 0 0) [] false :=
      ⟨Blk.new _ _ _, World.ownsRow_nil _ _ _ _, hS1.below ((Below.refl _ _).alloc (Nat.le_refl _) _) (by omega), by omega, by omega, by simp⟩
    generalize hg : w1.heap.size = g at *
    have hg2 : w.heap.size ≤ g := by omega
    clear hB1 hS1 hz1
    go_wp2
    generalize w1.alloc (.cells #[.slice (some ⟨w.heap.size + 31, 0, none⟩) 15 15, .slice none 0 0, .bool false] 54) = W0 at *
    go_loopw [6] (fun i wr => ∃ (k f : Nat) (tk : List Tk) (vv : Value) (o : Bool), k ≤ s.size ∧ i = .int .i64 k ∧ LexAt wr g (g + 1) w.heap.size vv tk o ∧ tk.length ≤ 2 * k ∧ Below w.heap.size w wr ∧ s.size < f + k ∧ Hid (R = lexF s.data.toList f k tk o)) (fun i _ => s.size - (intOf i).toNat)
    case atStart => exact ⟨0, s.data.toList.length + 1, [], _, false, Nat.zero_le _, rfl, hl0, by simp, hB2, by rw [HLEN.out]; omega, by rw [HLEN.out]; exact HR0⟩
    case round =>
      clear HR0 hl0 hB2
      obtain ⟨k, f, tk, vv, o, hk, rfl, h, htk, hbel, hfk, HR⟩ := hrel
      by_cases hlt : k < s.size
      · have hkl : k < s.data.toList.length := by rw [HLEN.out]; exact hlt
        have hcb := cutP_bd s.data.toList k hkl
        rw [HLEN.out] at hcb
        have HCUT := Lib.hid (fun W => cutLine_any s k hs (by omega) W)
        have HE := Lib.hid (fun he => lexF_err (toks := tk) (o := o) (show s.data.toList.length < f + k from by rw [HLEN.out]; exact hfk) hkl he)
        have HG := Lib.hid (fun f he => lexF_go (toks := tk) (o := o) (f := f) hkl he)
        generalize hc : cutP s.data.toList k = c at *
        obtain ⟨line, nx⟩ := c
        clear hc hkl
        simp only at hcb HCUT HE HG
        have HTL := Lib.hid (fun (W : World) (hl : LexAt W g (g + 1) w.heap.size vv tk o) => takeLine_any (bs line) g (g + 1) w.heap.size k vv tk o (by rw [bs_size]; omega) (by omega) (by rw [bs_size]; omega) W hl)
        rw [bs_toList, bs_size] at HTL
        generalize lineP line k tk o = L at *
        go_wp2_with (go_at_call 20; refine (HCUT.out _).mono ?_; rintro e w' ⟨rfl, rfl⟩)
        refine (HTL.out _ h).mono ?_
        rintro e w2 ⟨rfl, ⟨v2, hl2⟩, hlen, hb2⟩
        have hbel2 : Below w.heap.size w w2 := hbel.trans (hb2.mono hg2)
        clear hb2 hbel h
        by_cases he : L.err = 0
        · obtain ⟨f, rfl⟩ : ∃ f', f = f' + 1 := ⟨f - 1, by omega⟩
          have HR' : Hid (R = lexF s.data.toList f nx L.toks L.opened) := by
            show R = _
            rw [HR.out, HG.out f he]
          have he' : ((L.err : Int) == 0) = true := by
            rw [beq_iff_eq]
            omega
          have he'' : ((L.err : Int) != 0) = false := by
            rw [bne_eq_false_iff_eq]
            omega
          clear HE HG HR he
          go_wp2
          go_roundw
          case rel => exact ⟨nx, f, L.toks, v2, L.opened, by omega, rfl, hl2, by omega, hbel2, by omega, HR'⟩
          case measure => simp [intOf]; omega
        · have HR' : Hid (R = ([], L.place, L.err)) := by
            show R = _
            rw [HR.out, HE.out he]
          have he' : ((L.err : Int) == 0) = false := by
            rw [beq_eq_false_iff_ne]
            omega
          have he'' : ((L.err : Int) != 0) = true := by
            rw [bne_iff_ne]
            omega
          clear HE HG HR he
          go_wp2
          go_ret3
          refine ⟨.slice none 0 0, by rw [HR'.out]; rfl, ?_, hbel2⟩
          rw [HR'.out]
          exact World.ownsRow_nil _ _ _ _
      · have HR' : Hid (R = (closed s.data.toList tk o, 0, 0)) := by
          show R = _
          rw [HR.out, lexF_end (by rw [HLEN.out]; omega)]
        have HCL := Lib.hid (closed.eq_1 s.data.toList tk o)
        clear HR
        cases o with
        | true =>
          have HCL' := HCL.out
          rw [if_pos rfl, HLEN.out] at HCL'
          have HCC := Lib.hid HCL'
          clear HCL HCL'
          go_wp2_with fail
          refine (endRule_open g (g + 1) w.heap.size vv tk s.size _ h (by omega)).mono ?_
          rintro e w2 ⟨rfl, ⟨v2, hl2⟩, hb2⟩
          have hbel2 : Below w.heap.size w w2 := hbel.trans (hb2.mono hg2)
          have hc2 := hl2.blk.cell
          go_wp2
          go_ret3
          refine ⟨v2, by rw [HR'.out]; rfl, ?_, hbel2⟩
          rw [HR'.out, HCC.out]
          exact ownsRow_mono hl2.own (by omega)
        | false =>
          have HCL' := HCL.out
          rw [if_neg (by simp)] at HCL'
          have HCC := Lib.hid HCL'
          clear HCL HCL'
          go_wp2_with fail
          refine (endRule_shut g (g + 1) w.heap.size vv tk s.size _ h).mono ?_
          rintro e w2 ⟨rfl, hl2, hb2⟩
          have hbel2 : Below w.heap.size w w2 := hbel.trans (hb2.mono hg2)
          have hc2 := hl2.blk.cell
          go_wp2
          go_ret3
          refine ⟨vv, by rw [HR'.out]; rfl, ?_, hbel2⟩
          rw [HR'.out, HCC.out]
          exact ownsRow_mono hl2.own (by omega)
end Go.Proofs.YtciabhboiomehaaDoor
