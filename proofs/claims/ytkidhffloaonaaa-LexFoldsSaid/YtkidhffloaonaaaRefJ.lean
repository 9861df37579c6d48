/-
  The contract of frankingref01's Lines. Condition: a text of at most 65536 bytes.
-/
import Derived.Test.YtkidhffloaonaaaRefI
import Derived.Test.YtkidhffloaonaaaTail
import Derived.Lib.IndexLaws
namespace Go.Proofs.Ytkidhffloaonaaa
open Go.RowKit

theorem byteZ_get (l : List UInt8) (k : Nat) (h : k < l.length) : byteZ l k = ((l[k]'h).toNat : Int) := by
  unfold byteZ
  rw [List.getD_eq_getElem?_getD, List.getElem?_eq_getElem h]
  rfl
theorem index_at (l : List UInt8) (k : Nat) (h : k < l.length) (hno : ∀ j, j < k → byteZ l j ≠ 10) (h10 : byteZ l k = 10) : Lib.indexByte l 10 = k := by
  have hb := indexByte_bd l 10
  have hk : l[k]? = some 10 := by
    rw [List.getElem?_eq_getElem h, Option.some.injEq]
    rw [byteZ_get l k h] at h10
    exact u8_of (k := 10) h10 (by omega)
  by_cases hneg : Lib.indexByte l 10 = -1
  · exact absurd hk (Lib.indexByte_none hneg k)
  · obtain ⟨o, ho⟩ : ∃ o : Nat, Lib.indexByte l 10 = o := ⟨(Lib.indexByte l 10).toNat, by omega⟩
    obtain ⟨h1, h2⟩ := Lib.indexByte_some ho
    rcases Nat.lt_trichotomy o k with h | h | h
    · have hol : o < l.length := by omega
      rw [List.getElem?_eq_getElem hol, Option.some.injEq] at h1
      exact absurd (by rw [byteZ_get l o hol, h1]; rfl) (hno o h)
    · rw [ho, h]
    · exact absurd hk (h2 k h)
theorem index_no (l : List UInt8) (hno : ∀ j, j < l.length → byteZ l j ≠ 10) : Lib.indexByte l 10 < 0 := by
  have hb := indexByte_bd l 10
  by_cases hneg : Lib.indexByte l 10 = -1
  · omega
  · obtain ⟨o, ho⟩ : ∃ o : Nat, Lib.indexByte l 10 = o := ⟨(Lib.indexByte l 10).toNat, by omega⟩
    obtain ⟨h1, h2⟩ := Lib.indexByte_some ho
    have hol : o < l.length := by omega
    rw [List.getElem?_eq_getElem hol, Option.some.injEq] at h1
    exact absurd (by rw [byteZ_get l o hol, h1]; rfl) (hno o hol)
theorem trim13 (r : List UInt8) : (Lib.trimSuffix r [13]).length = if 0 < r.length ∧ byteZ r (r.length - 1) = 13 then r.length - 1 else r.length := by
  unfold Lib.trimSuffix Lib.hasSuffix
  rcases List.eq_nil_or_concat r with rfl | ⟨q, c, rfl⟩
  · rfl
  · rw [List.concat_eq_append]
    have hl : (q ++ [c]).length - 1 = q.length := by simp
    rw [hl, byteZ_last]
    have e1 : [13].isSuffixOf (q ++ [c]) = (c == 13) := by
      rw [Bool.eq_iff_iff, List.isSuffixOf_iff_suffix, beq_iff_eq]
      constructor
      · rintro ⟨t, ht⟩
        have := (List.append_inj' ht rfl).2
        simpa using this.symm
      · rintro rfl
        exact ⟨q, rfl⟩
    rw [e1]
    by_cases hc : c = 13
    · subst hc
      rw [if_pos (by decide), if_pos ⟨by simp, rfl⟩]
      simp
    · rw [if_neg (by simpa using hc), if_neg]
      rintro ⟨_, h⟩
      exact hc (u8_of (k := 13) h (by omega))
theorem cut_at (l : List UInt8) (a i : Nat) (ha : a ≤ i) (hi : i < l.length) (hno : ∀ j, a ≤ j → j < i → byteZ l j ≠ 10) (h10 : byteZ l i = 10) :
    (cutP l a).1.length = (if a < i ∧ byteZ l (i - 1) = 13 then i - 1 - a else i - a) ∧ (cutP l a).2 = i + 1 := by
  have hix := index_at (l.drop a) (i - a) (by rw [List.length_drop]; omega) (fun j hj => by rw [byteZ_drop]; exact hno _ (by omega) (by omega)) (by rw [byteZ_drop, show a + (i - a) = i from by omega]; exact h10)
  unfold cutP
  rw [hix, if_neg (by omega)]
  refine ⟨?_, by simp only [Int.toNat_natCast]; omega⟩
  simp only [Int.toNat_natCast]
  rw [trim13]
  have hlen : ((l.drop a).take (i - a)).length = i - a := by rw [List.length_take, List.length_drop]; omega
  rw [hlen]
  by_cases hlt : a < i
  · have hby : byteZ ((l.drop a).take (i - a)) (i - a - 1) = byteZ l (i - 1) := by
      have h1 : byteZ ((l.drop a).take (i - a)) (i - a - 1) = byteZ (l.drop a) (i - a - 1) := by
        unfold byteZ
        rw [List.getD_eq_getElem?_getD, List.getD_eq_getElem?_getD, List.getElem?_take, if_pos (by omega)]
      rw [h1, byteZ_drop, show a + (i - a - 1) = i - 1 from by omega]
    rw [hby]
    by_cases h13 : byteZ l (i - 1) = 13
    · rw [if_pos ⟨by omega, h13⟩, if_pos ⟨hlt, h13⟩]; omega
    · rw [if_neg (fun h => h13 h.2), if_neg (fun h => h13 h.2)]
  · rw [if_neg (fun h => by omega), if_neg (fun h => hlt h.1)]
theorem cut_no (l : List UInt8) (a : Nat) (ha : a ≤ l.length) (hno : ∀ j, a ≤ j → j < l.length → byteZ l j ≠ 10) : (cutP l a).1.length = l.length - a ∧ (cutP l a).2 = l.length := by
  have hix := index_no (l.drop a) (fun j hj => by rw [byteZ_drop]; rw [List.length_drop] at hj; exact hno _ (by omega) (by omega))
  unfold cutP
  rw [if_pos hix]
  exact ⟨List.length_drop, rfl⟩

/-- where each line begins and ends, from a place on -/
def linesF (l : List UInt8) : Nat → Nat → List (Nat × Nat)
  | 0, _ => []
  | f + 1, k => if l.length ≤ k then [] else (k, k + (cutP l k).1.length) :: linesF l f (cutP l k).2
def linesP (l : List UInt8) : List (Nat × Nat) := linesF l (l.length + 1) 0
theorem linesF_end {l : List UInt8} {f k : Nat} (h : l.length ≤ k) : linesF l f k = [] := by
  cases f with
  | zero => rfl
  | succ f => rw [linesF, if_pos h]
theorem linesF_go {l : List UInt8} {f k : Nat} (h : k < l.length) : linesF l (f + 1) k = (k, k + (cutP l k).1.length) :: linesF l f (cutP l k).2 := by
  rw [linesF, if_neg (by omega)]
def pairCells (p : Nat × Nat) : List Value := [.int .i64 p.1, .int .i64 p.2]
def pairsCells (ps : List (Nat × Nat)) : List Value := ps.flatMap pairCells
theorem pairsCells_snoc (ps : List (Nat × Nat)) (p : Nat × Nat) : pairsCells (ps ++ [p]) = pairsCells ps ++ pairCells p := by simp [pairsCells]
theorem Try.infoPair : (Try.prog.info? 54).map (fun i => (i.zero, i.size, i.bytes)) = some (some (.agg #[.int .i64 0, .int .i64 0]), 2, 16) := by kernel_rfl

def LinesOut (w w' : World) (ps : List (Nat × Nat)) (v : Value) : Prop := w'.ownsRow w.heap.size 54 2 v ps.length (pairsCells ps) ∧ Below w.heap.size w w'
theorem LinesOut.put {w wr w1 : World} {ps : List (Nat × Nat)} {p : Nat × Nat} {v v1 : Value} {ob : Obj} (h : LinesOut w wr ps v)
    (hown : w1.ownsRow w.heap.size 54 2 v1 (ps.length + 1) (pairsCells ps ++ pairCells p)) (hgrow : (wr.alloc ob).grownBy w1 v.ownBlock) : LinesOut w w1 (ps ++ [p]) v1 := by
  refine ⟨by rw [pairsCells_snoc, List.length_append]; exact hown, ?_⟩
  exact (h.2.alloc h.2.size _).grown hgrow (by have := h.2.size; simp; omega) (fun g hg => (h.1.lt g hg).1)

set_option maxRecDepth 100000 in
set_option maxHeartbeats 4000000 in
theorem refLines_any (s : ByteArray) (hs : s.size ≤ 65536) (w : World) :
    Calls Try.prog 23 #[.string s] w fun e w' => ∃ v, e = .returned v ∧ LinesOut w w' (linesP s.data.toList) v ∧ (linesP s.data.toList).length ≤ s.size := by
  obtain ⟨i0, hi0, hz0, hz1, hz2⟩ := info_parts Try.infoPair
  have HLEN := Lib.hid (listLen s)
  have HR0 : Hid (linesP s.data.toList = linesF s.data.toList (s.data.toList.length + 1) 0) := show _ = _ from rfl
  generalize linesP s.data.toList = R at *
  have HNL := Lib.hid (fun a i => cut_at s.data.toList a i)
  have HNO := Lib.hid (fun a => cut_no s.data.toList a)
  go_enter Try.func23, Try.ntmps23
  go_wp2
  go_loopw [3, 4, 5] (fun o fr i wr => ∃ (a k f : Nat) (ps : List (Nat × Nat)) (vv : Value), vv = o ∧ a ≤ k ∧ k ≤ s.size ∧ fr = .int .i64 a ∧ i = .int .i64 k ∧ Hid (∀ j, a ≤ j → j < k → byteZ s.data.toList j ≠ 10) ∧ LinesOut w wr ps o ∧ ps.length ≤ a ∧ s.size < f + a ∧ Hid (R = ps ++ linesF s.data.toList f a)) (fun _ _ i _ => s.size - (intOf i).toNat)
  case atStart => exact ⟨0, 0, s.size + 1, [], _, rfl, Nat.le_refl _, Nat.zero_le _, rfl, rfl, (show ∀ j, _ from fun j h1 h2 => by omega), ⟨World.ownsRow_nil _ _ _ _, Below.refl _ _⟩, Nat.le_refl _, by omega, by rw [HLEN.out] at HR0; exact HR0⟩
  case round =>
    clear HR0
    obtain ⟨a, k, f, ps, vv, rfl, hak, hk, rfl, rfl, HN, h, hps, hfa, HR⟩ := hrel
    by_cases hlt : k < s.size
    · have HB := Lib.hid (byteZ_at s k hlt)
      have hkl : k < s.data.toList.length := by rw [HLEN.out]; exact hlt
      by_cases h10 : ((s[k]'hlt).toNat : Int) = 10
      · have hc := HNL.out a k hak hkl HN.out (by rw [← HB.out]; exact h10)
        obtain ⟨f, rfl⟩ : ∃ f', f = f' + 1 := ⟨f - 1, by omega⟩
        have hgo := linesF_go (l := s.data.toList) (f := f) (k := a) (by omega)
        rw [hc.2] at hgo
        have HG : ∀ e : Nat, a + (cutP s.data.toList a).1.length = e → Hid (R = (ps ++ [(a, e)]) ++ linesF s.data.toList f (k + 1)) := by
          intro e he
          show R = _
          rw [HR.out, hgo, he, List.append_assoc]
          rfl
        have HL := hc.1
        clear hc hgo HR
        generalize (cutP s.data.toList a).1.length = ln at *
        by_cases hlt2 : a < k
        · have hk1 : k - 1 < s.size := by omega
          have hnn : ((k : Int) - 1).toNat = k - 1 := by omega
          have HB1 := Lib.hid (byteZ_at s (k - 1) hk1)
          rw [← HB1.out] at HL
          by_cases h13 : ((s[k - 1]'hk1).toNat : Int) = 13
          · rw [if_pos ⟨hlt2, h13⟩] at HL
            have HG' := HG (k - 1) (by omega)
            have HPC : Hid ([Value.int .i64 (a : Int), .int .i64 ((k : Int) - 1)] = pairCells (a, k - 1)) := by
              show _ = _
              rw [pairCells, show ((k : Int) - 1) = ((k - 1 : Nat) : Int) from by omega]
            clear HG HL
            go_wp2_with (at_builtin; refine wpList_append_lies _ rfl _ _ 52 rfl w.heap.size 54 i0 _ 2 16 Try.underlying52 hi0 hz0 hz1 hz2 rfl (by decide) vv ps.length (pairsCells ps) (by rfl) (h.1.alloc _) ⟨wr.heap.size, 0, none⟩ 1 1 [.int .i64 (a : Int), .int .i64 ((k : Int) - 1)] (by rfl) (by rfl) (World.news_of_block (cs := #[.int .i64 (a : Int), .int .i64 ((k : Int) - 1)]) (t := 54) (fr := (0, 0)) (heap_alloc_new wr _)) ?c1 (by omega) ?c2 ?c3 ?c4 (wr.heap.size + 1) (by simp) ?_)
            case c1 => simp [Value.oneCell']
            case c2 => unfold maxLen; omega
            case c3 => omega
            case c4 => have := h.2.size; simp; omega
            intro gg cap w1 hown hgrow _ _
            rw [HPC.out] at hown
            have hput := h.put hown hgrow
            clear hown hgrow h
            go_wp2
            go_roundw
            case rel => exact ⟨k + 1, k + 1, f, ps ++ [(a, k - 1)], _, rfl, Nat.le_refl _, by omega, rfl, by go_num, (show ∀ j, _ from fun j h1 h2 => by omega), hput, by simp; omega, by omega, HG'⟩
            case measure => simp [intOf]; omega
          · rw [if_neg (fun h => h13 h.2)] at HL
            have h13b : (((s[k - 1]'hk1).toNat : Int) == 13) = false := by rw [beq_eq_false_iff_ne]; exact h13
            have HG' := HG k (by omega)
            clear HG HL
            go_wp2_with (at_builtin; refine wpList_append_lies _ rfl _ _ 52 rfl w.heap.size 54 i0 _ 2 16 Try.underlying52 hi0 hz0 hz1 hz2 rfl (by decide) vv ps.length (pairsCells ps) (by rfl) (h.1.alloc _) ⟨wr.heap.size, 0, none⟩ 1 1 (pairCells (a, k)) (by rfl) (by rfl) (World.news_of_block (cs := (pairCells (a, k)).toArray) (t := 54) (fr := (0, 0)) (heap_alloc_new wr _)) ?c1 (by omega) ?c2 ?c3 ?c4 (wr.heap.size + 1) (by simp) ?_)
            case c1 => simp [pairCells, Value.oneCell']
            case c2 => unfold maxLen; omega
            case c3 => omega
            case c4 => have := h.2.size; simp; omega
            intro gg cap w1 hown hgrow _ _
            have hput := h.put hown hgrow
            clear hown hgrow h
            go_wp2
            go_roundw
            case rel => exact ⟨k + 1, k + 1, f, ps ++ [(a, k)], _, rfl, Nat.le_refl _, by omega, rfl, by go_num, (show ∀ j, _ from fun j h1 h2 => by omega), hput, by simp; omega, by omega, HG'⟩
            case measure => simp [intOf]; omega
        · rw [if_neg (fun h => hlt2 h.1)] at HL
          have HG' := HG k (by omega)
          clear HG HL
          go_wp2_with (at_builtin; refine wpList_append_lies _ rfl _ _ 52 rfl w.heap.size 54 i0 _ 2 16 Try.underlying52 hi0 hz0 hz1 hz2 rfl (by decide) vv ps.length (pairsCells ps) (by rfl) (h.1.alloc _) ⟨wr.heap.size, 0, none⟩ 1 1 (pairCells (a, k)) (by rfl) (by rfl) (World.news_of_block (cs := (pairCells (a, k)).toArray) (t := 54) (fr := (0, 0)) (heap_alloc_new wr _)) ?c1 (by omega) ?c2 ?c3 ?c4 (wr.heap.size + 1) (by simp) ?_)
          case c1 => simp [pairCells, Value.oneCell']
          case c2 => unfold maxLen; omega
          case c3 => omega
          case c4 => have := h.2.size; simp; omega
          intro gg cap w1 hown hgrow _ _
          have hput := h.put hown hgrow
          clear hown hgrow h
          go_wp2
          go_roundw
          case rel => exact ⟨k + 1, k + 1, f, ps ++ [(a, k)], _, rfl, Nat.le_refl _, by omega, rfl, by go_num, (show ∀ j, _ from fun j h1 h2 => by omega), hput, by simp; omega, by omega, HG'⟩
          case measure => simp [intOf]; omega
      · have h10b : (((s[k]'hlt).toNat : Int) == 10) = false := by rw [beq_eq_false_iff_ne]; exact h10
        have HN' : Hid (∀ j, a ≤ j → j < k + 1 → byteZ s.data.toList j ≠ 10) := by
          show ∀ j, _
          intro j h1 h2
          by_cases hj : j = k
          · rw [hj, ← HB.out]; exact h10
          · exact HN.out j h1 (by omega)
        clear HN
        go_wp2
        go_roundw
        case rel => exact ⟨a, k + 1, f, ps, vv, rfl, by omega, by omega, rfl, by go_num, HN', h, hps, hfa, HR⟩
        case measure => simp [intOf]; omega
    · have hkk : k = s.size := by omega
      subst hkk
      have hc := HNO.out a (by rw [HLEN.out]; exact hak) (fun j h1 h2 => HN.out j h1 (by rw [← HLEN.out]; exact h2))
      by_cases hlt2 : a < s.size
      · obtain ⟨f, rfl⟩ : ∃ f', f = f' + 1 := ⟨f - 1, by omega⟩
        have HG' : Hid (R = ps ++ [(a, s.size)]) := by
          show R = _
          rw [HR.out, linesF_go (by rw [HLEN.out]; exact hlt2), hc.1, hc.2, linesF_end (Nat.le_refl _), HLEN.out, show a + (s.size - a) = s.size from by omega]
        clear HR hc HN
        go_wp2_with (at_builtin; refine wpList_append_lies _ rfl _ _ 52 rfl w.heap.size 54 i0 _ 2 16 Try.underlying52 hi0 hz0 hz1 hz2 rfl (by decide) vv ps.length (pairsCells ps) (by rfl) (h.1.alloc _) ⟨wr.heap.size, 0, none⟩ 1 1 (pairCells (a, s.size)) (by rfl) (by rfl) (World.news_of_block (cs := (pairCells (a, s.size)).toArray) (t := 54) (fr := (0, 0)) (heap_alloc_new wr _)) ?c1 (by omega) ?c2 ?c3 ?c4 (wr.heap.size + 1) (by simp) ?_)
        case c1 => simp [pairCells, Value.oneCell']
        case c2 => unfold maxLen; omega
        case c3 => omega
        case c4 => have := h.2.size; simp; omega
        intro gg cap w1 hown hgrow _ _
        have hput := h.put hown hgrow
        clear hown hgrow h
        go_wp2
        go_ret
        exact ⟨_, rfl, by rw [HG'.out]; exact hput, by rw [HG'.out]; simp; omega⟩
      · have HG' : Hid (R = ps) := by
          show R = _
          rw [HR.out, linesF_end (by rw [HLEN.out]; omega), List.append_nil]
        clear HR hc HN
        go_wp2
        go_ret
        exact ⟨_, rfl, by rw [HG'.out]; exact h, by rw [HG'.out]; omega⟩
end Go.Proofs.Ytkidhffloaonaaa
