/-
  The contract of dots.Decode. Conditions: the bytes lie in memory, at most 1000000 of them; the library's MaxLen holds some number.
-/
import Derived.Test.YtlpplmcploddaaaDoorDtE
import Derived.Test.YtlpplmcploddaaaDoorDtR
import Derived.Deep.DeepCutAuto
namespace Go.Proofs.YtlpplmcploddaaaDoor
open Go.RowKit Go.Shelf

attribute [local go_sem] Oper.semAt_some

def itms {b : List UInt8} (xs : List (ItmF b)) : List Itm := xs.map (·.1)
theorem itms_snoc {b : List UInt8} (xs : List (ItmF b)) (x : ItmF b) : itms (xs ++ [x]) = itms xs ++ [x.1] := by simp [itms]
theorem itms_len {b : List UInt8} (xs : List (ItmF b)) : (itms xs).length = xs.length := List.length_map _
/-- what Decode has: its answers' blocks, what is read, how many bytes are taken -/
structure DcW (w : World) (s : List Itm) (W : World) (v0 : Value) (n0 : Int) (ok : Bool) : Prop where
  r0 : Blk W w.heap.size 22 #[v0]
  r1 : Blk W (w.heap.size + 1) 3 #[.int .i64 n0]
  r2 : Blk W (w.heap.size + 2) 4 #[.bool ok]
  low : Below w.heap.size w W
  ge : w.heap.size + 6 ≤ W.heap.size
def DecI (w : World) (b : List UInt8) (xs : List (ItmF b)) (W : World) : Prop :=
  DcW w (itms xs) W (.slice none 0 0) 0 false ∧ fineI (itms xs) ∧ (∃ v, Blk W (w.heap.size + 3) 22 #[v] ∧ W.ownsRow (w.heap.size + 6) 5 1 v (bodyI (itms xs)).length ((bodyI (itms xs)).map byteV)) ∧ Blk W (w.heap.size + 4) 3 #[.int .i64 (takenI (itms xs) : Nat)]
def DecX (w : World) (b : List UInt8) (c : Code) (xs : List (ItmF b)) (W : World) : Prop :=
  ∃ q x, xs = q ++ [x] ∧ fineI (itms q) ∧
    ((c = .exit 0 ∧ x.1.2.2 = false ∧ DcW w (itms q) W (.slice none 0 0) 0 false) ∨
     (c = .ret ∧ x.1.2.2 = true ∧ x.1.2.1 = [46] ∧ ∃ v, DcW w (itms q) W v ((takenI (itms q) : Nat) + 3) true ∧ W.ownsRow (w.heap.size + 6) 5 1 v (bodyI (itms q)).length ((bodyI (itms q)).map byteV)))
theorem DcW.by_ {w : World} {s : List Itm} {W W' : World} {v0 : Value} {n0 : Int} {ok : Bool} {row : Option Nat} (h : DcW w s W v0 n0 ok) (hg : W.grownBy W' row) (hr : ∀ r, row = some r → w.heap.size ≤ r ∧ ∃ o : Obj, W.heap[r]? = some o ∧ o.isCells = false) : DcW w s W' v0 n0 ok :=
  ⟨blk_by h.r0 hg (fun r e => (hr r e).2), blk_by h.r1 hg (fun r e => (hr r e).2), blk_by h.r2 hg (fun r e => (hr r e).2), h.low.grown hg h.low.size (fun k e => (hr k e).1), Nat.le_trans h.ge hg.size⟩
theorem own_slice' {W : World} {B z n : Nat} {e : TypeId} {v : Value} {xs : List Value} (h : W.ownsRow B e z v n xs) : ∃ A c, v = .slice A n c := by
  rcases h.2 with ⟨rfl, h0⟩ | ⟨g, cap, cur, rfl, _⟩
  · exact ⟨none, 0, by rw [h0]⟩
  · exact ⟨_, _, rfl⟩
/-- the answers are put down -/
theorem DcW.put {w : World} {s : List Itm} {W : World} {v0 : Value} {n0 : Int} {ok : Bool} (h : DcW w s W v0 n0 ok) (v1 : Value) (n1 : Int) (ok1 : Bool) : DcW w s (((W.setCell ⟨w.heap.size, 0, none⟩ v1).setCell ⟨w.heap.size + 1, 0, none⟩ (.int .i64 n1)).setCell ⟨w.heap.size + 2, 0, none⟩ (.bool ok1)) v1 n1 ok1 := by
  refine ⟨?_, ?_, ?_, ?_, ?_⟩
  · exact ((h.r0.set_ 0 v1).other (p := ⟨w.heap.size + 1, 0, none⟩) (by show w.heap.size ≠ w.heap.size + 1; omega) _).other (p := ⟨w.heap.size + 2, 0, none⟩) (by show w.heap.size ≠ w.heap.size + 2; omega) _
  · exact ((h.r1.other (p := ⟨w.heap.size, 0, none⟩) (by show w.heap.size + 1 ≠ w.heap.size; omega) _).set_ 0 (.int .i64 n1)).other (p := ⟨w.heap.size + 2, 0, none⟩) (by show w.heap.size + 1 ≠ w.heap.size + 2; omega) _
  · exact ((h.r2.other (p := ⟨w.heap.size, 0, none⟩) (by show w.heap.size + 2 ≠ w.heap.size; omega) _).other (p := ⟨w.heap.size + 1, 0, none⟩) (by show w.heap.size + 2 ≠ w.heap.size + 1; omega) _).set_ 0 (.bool ok1)
  · exact ((h.low.setCell (p := ⟨w.heap.size, 0, none⟩) (Nat.le_refl _) _).setCell (p := ⟨w.heap.size + 1, 0, none⟩) (Nat.le_add_right _ _) _).setCell (p := ⟨w.heap.size + 2, 0, none⟩) (Nat.le_add_right _ _) _
  · have := h.ge
    simpa [World.setCell] using this
theorem DcW.drew {w : World} {s : List Itm} {W : World} {v0 : Value} {n0 : Int} {ok : Bool} (h : DcW w s W v0 n0 ok) : DcW w s W.drew v0 n0 ok := ⟨h.r0, h.r1, h.r2, h.low.drew, h.ge⟩
/-- a later world, in which the answers are as they were -/
theorem DcW.later {w : World} {s : List Itm} {W W' : World} {v0 : Value} {n0 : Int} {ok : Bool} (h : DcW w s W v0 n0 ok) (hb : Below (w.heap.size + 3) W W') (hs : W.heap.size ≤ W'.heap.size) : DcW w s W' v0 n0 ok :=
  ⟨h.r0.below hb (by omega), h.r1.below hb (by omega), h.r2.below hb (by omega), h.low.trans (hb.mono (by omega)), Nat.le_trans h.ge hs⟩
/-- what comes of it -/
def DecOut (w : World) (b : List UInt8) (e : Ending) (w' : World) : Prop :=
  Below w.heap.size w w' ∧ ((readD b = none ∧ e = .returned (.tuple #[.slice none 0 0, .int .i64 0, .bool false])) ∨
    ∃ body n v, readD b = some (body, n) ∧ e = .returned (.tuple #[v, .int .i64 (n : Nat), .bool true]) ∧ w'.ownsRow w.heap.size 5 1 v body.length (body.map byteV))
set_option maxRecDepth 100000 in
set_option maxHeartbeats 4000000 in
theorem decode_any (a : Option Addr) (b : List UInt8) (m : Nat) (hm : b.length = m) (c : Nat) (hc : m ≤ c) (hm2 : m ≤ 1000000) (w : World) (h : BytesAt w a b) (mx : Int) (hmx : w.cell? ⟨0, 0, none⟩ = some (.int .i64 mx)) :
    Calls Tryd.prog 9 #[.slice a m c] w fun e w' => DecOut w b e w' := by
  obtain ⟨i0, hi, hz0, hz1, hz2⟩ := info_parts info8
  have hg0 : 0 < w.heap.size := World.block_lt_of_cell? w ⟨0, 0, none⟩ hmx
  refine (callsIn_wide (n := 6)).1 ?_
  refine callsIn_of_wp_marks Tryd.func9 rfl trivial ?_ rfl
  simp only [Tryd.ntmps9, List.size_toArray, List.length_cons, List.length_nil, Nat.reduceAdd, Nat.reduceSub, Array.replicate_succ, Array.replicate_zero, List.push_toArray, List.append_toArray, List.nil_append, List.cons_append]
  refine wpIn_wide.2 ?_
  go_wp2_with (go_at_call 15; refine (lines_any _ _ _ _).mono ?_; rintro e w1 ⟨rfl, rfl⟩)
  simp only [Nat.add_assoc, Nat.reduceAdd]
  obtain ⟨g, off, hrow⟩ : ∃ g off, 0 < m → a = some ⟨g, off, none⟩ ∧ g < w.heap.size ∧ ∀ j (h : j < b.length), w.cell? ⟨g, off + j, none⟩ = some (byteV b[j]) := by
    by_cases h0 : 0 < m
    · obtain ⟨g, off, e1, e2, e3⟩ := RowAt.row h (by rw [List.length_map]; omega)
      exact ⟨g, off, fun _ => ⟨e1, e2, fun j hj => by rw [e3 j (by rw [List.length_map]; exact hj), List.getElem_map]⟩⟩
    · exact ⟨0, 0, fun h => absurd h h0⟩
  obtain ⟨W2, hWE⟩ : ∃ W2, W2 = (((((w.alloc (.cells #[.slice none 0 0] 22)).alloc (.cells #[.int .i64 0] 3)).alloc (.cells #[.bool false] 4)).alloc (.cells #[.slice none 0 0] 22)).alloc (.cells #[.int .i64 0] 3)).alloc (.cells #[.slice a m c] 22) := ⟨_, rfl⟩
  rw [← hWE]
  have hW2 : Below w.heap.size w W2 := by
    rw [hWE]
    exact ((((((Below.refl _ w).alloc (Nat.le_refl _) _).alloc (by simp) _).alloc (by simp; omega) _).alloc (by simp; omega) _).alloc (by simp; omega) _).alloc (by simp; omega) _
  have hsz2 : W2.heap.size = w.heap.size + 6 := by rw [hWE]; simp
  have hB0 : Blk W2 w.heap.size 22 #[.slice none 0 0] := by rw [hWE]; exact (((((Blk.new _ _ _).alloc _).alloc _).alloc _).alloc _).alloc _
  have hB1 : Blk W2 (w.heap.size + 1) 3 #[.int .i64 0] := by rw [hWE]; exact ((((Blk.new_at _ _ _ _ (by simp)).alloc _).alloc _).alloc _).alloc _
  have hB2 : Blk W2 (w.heap.size + 2) 4 #[.bool false] := by rw [hWE]; exact (((Blk.new_at _ _ _ _ (by simp)).alloc _).alloc _).alloc _
  have hB3 : Blk W2 (w.heap.size + 3) 22 #[.slice none 0 0] := by rw [hWE]; exact ((Blk.new_at _ _ _ _ (by simp)).alloc _).alloc _
  have hB4 : Blk W2 (w.heap.size + 4) 3 #[.int .i64 0] := by rw [hWE]; exact (Blk.new_at _ _ _ _ (by simp)).alloc _
  have hB5 : Blk W2 (w.heap.size + 5) 22 #[.slice a m c] := by rw [hWE]; exact Blk.new_at _ _ _ _ (by simp)
  clear hWE
  have hseq := lines_seq 5 (by omega) (w.heap.size + 5) w.heap.size g off b m hm (by omega) a c hc mx W2 hB5 (by omega) ((hW2.cell (p := ⟨0, 0, none⟩) hg0).trans hmx) hg0 (fun h => by
    obtain ⟨e1, e2, e3⟩ := hrow h
    exact ⟨e1, e2, fun j hj => (hW2.cell (p := ⟨g, off + j, none⟩) e2).trans (e3 j hj)⟩)
  have HSZ := Lib.hid hsz2
  have HROW := Lib.hid hrow
  have HM := Lib.hid hm
  have HMX := Lib.hid hmx
  refine (wpIn_wide (n := 6)).1 ?_
  refine wpIn_rangeFunc_ownG rfl (by omega) (gf := 21) (lb := #[.pointer (some ⟨w.heap.size + 5, 0, none⟩)]) rfl trivial (enters_of Tryd.func21 (by kernel_rfl) rfl)
    hseq (fun h k => belowK_t h k) (fun W l o o' => belowK_b (by omega) W l o o') (Below.refl _ _) (fun _ => rfl)
    (DecI w b) (DecX w b)
    (fun s A B' row hs hg hr => by
      obtain ⟨h1, h2, ⟨v, h3, h4⟩, h5⟩ := hs
      exact ⟨h1.by_ hg (fun r e => ⟨by have := (hr r e).1; omega, (hr r e).2⟩), h2, ⟨v, blk_by h3 hg (fun r e => (hr r e).2), own_by h4 hg (fun r e => (hr r e).2)⟩, blk_by h5 hg (fun r e => (hr r e).2)⟩)
    (fun c' s A B' row hs hg hr => by
      obtain ⟨q, x, h1, h2, h3⟩ := hs
      have hr2 : ∀ r, row = some r → w.heap.size ≤ r ∧ ∃ o : Obj, A.heap[r]? = some o ∧ o.isCells = false := fun r e => ⟨by have := (hr r e).1; omega, (hr r e).2⟩
      refine ⟨q, x, h1, h2, ?_⟩
      rcases h3 with ⟨k1, k2, k3⟩ | ⟨k1, k2, k3, v, k4, k5⟩
      · exact .inl ⟨k1, k2, k3.by_ hg hr2⟩
      · exact .inr ⟨k1, k2, k3, v, k4.by_ hg hr2, own_by k5 hg (fun r e => (hr r e).2)⟩)
    ⟨⟨hB0, hB1, hB2, hW2, by omega⟩, (fun x hx => by cases hx), ⟨_, hB3, World.ownsRow_nil _ _ _ _⟩, hB4⟩
    (fun x => { tmps := #[.slice a m c, undef, .pointer (some ⟨w.heap.size, 0, none⟩), .pointer (some ⟨w.heap.size + 1, 0, none⟩), .pointer (some ⟨w.heap.size + 2, 0, none⟩), .pointer (some ⟨w.heap.size + 3, 0, none⟩), .pointer (some ⟨w.heap.size + 4, 0, none⟩), .slice (some ⟨g, off + x.1.1, none⟩) x.1.2.1.length (c - x.1.1), .bool x.1.2.2, undef, undef, .slice a m c, .func (.func 21) #[] #[.pointer (some ⟨w.heap.size + 5, 0, none⟩)], .slice (some ⟨g, off + x.1.1, none⟩) x.1.2.1.length (c - x.1.1), .bool x.1.2.2, undef, undef, undef, undef, undef, undef, undef, undef, undef, undef, undef, undef, undef, undef, undef, undef, undef, undef, undef], defers := [] }) ?assign ?body ?done ?stop
  case assign =>
    intro l x W K hK
    gi_wp2
    exact hK
  case body =>
    rintro l2 pre x W ⟨hdc, hfine, ⟨v, hS, hown⟩, hT⟩ hlt
    have hgm : BytesAt W (some ⟨g, off + x.1.1, none⟩) x.1.2.1 ∧ (x.1.2.1 = [] ∨ (x.1.1 + x.1.2.1.length ≤ m ∧ g < w.heap.size)) := by
      obtain ⟨e1, e2, e3⟩ := HROW.out (by omega)
      have := itm_at (off := off) (Nat.lt_of_lt_of_le e2 hdc.low.size) (fun j hj => (hdc.low.cell (p := ⟨g, off + j, none⟩) e2).trans (e3 j hj)) (by rw [HM.out]; exact hm2) x
      rw [HM.out] at this
      exact ⟨this.1, this.2.imp id fun h => ⟨h, e2⟩⟩
    obtain ⟨hgB, hfit⟩ := hgm
    have hgw : g < w.heap.size := (HROW.out (by omega)).2.1
    have hilen := itm_len x
    rw [HM.out] at hilen
    have hall : ∀ y ∈ itms pre, y.2.1.length ≤ 1000000 := fun y hy => by
      obtain ⟨z, _, rfl⟩ := List.mem_map.1 hy
      have := itm_len z
      rw [HM.out] at this
      omega
    have hpl := bodyI_len (itms pre) hall
    rw [itms_len] at hpl
    have hpl2 : pre.length * (1000000 + 2) ≤ 1000002000000 := by
      have : pre.length ≤ 1000000 := by omega
      have := Nat.mul_le_mul_right (1000000 + 2) this
      omega
    have hcap : x.1.2.1.length ≤ c - x.1.1 := by
      rcases hfit with h | h
      · rw [h]; exact Nat.zero_le _
      · omega
    obtain ⟨⟨o, l, f⟩, hf⟩ := x
    simp only at hgB hfit hilen hcap ⊢
    have HDC := Lib.hid hdc
    have HF := Lib.hid hfine
    cases f with
    | false =>
      clear hseq hdc hfine hS hown hT hgB hfit hall hpl hpl2 hcap
      gi_wp2
      exact ⟨KeepsFrom.refl _ _, pre, ⟨(o, l, false), hf⟩, rfl, HF.out, .inl ⟨rfl, rfl, HDC.out⟩⟩
    | true =>
      obtain ⟨A, ca, rfl⟩ := own_slice' hown
      obtain ⟨T, hTe⟩ : ∃ T, T = takenI (itms pre) := ⟨_, rfl⟩
      obtain ⟨L, hLe⟩ : ∃ L, L = l.length := ⟨_, rfl⟩
      have HTE := Lib.hid hTe
      have HLE := Lib.hid hLe
      rw [← hTe] at hT hpl
      rw [← hLe] at hilen hcap ⊢
      have HBY := Lib.hid hgB
      have HT4 := Lib.hid hT
      have HS3 := Lib.hid hS
      have HOW := Lib.hid hown
      have hT2 : T ≤ 1000002000000 := by omega
      have hbl : (bodyI (itms pre)).length ≤ 1000002000000 := by omega
      obtain ⟨W1, hW1⟩ : ∃ W1, W1 = W.setCell ⟨w.heap.size + 4, 0, none⟩ (.int .i64 ((T : Int) + ((L : Int) + 2))) := ⟨_, rfl⟩
      have HW1 := Lib.hid hW1
      have hby1 : BytesAt W1 (some ⟨g, off + o, none⟩) l := by
        rw [hW1]
        exact RowAt.only hgB ((Only.refl _ W).set_ 0 _) (fun _ y hy => by cases hy; show g ≠ _; omega)
      have hd1 : DcW w (itms pre) W1 (.slice none 0 0) 0 false := by
        rw [hW1]
        exact hdc.later ((Below.refl _ W).setCell (p := ⟨w.heap.size + 4, 0, none⟩) (by show w.heap.size + 3 ≤ w.heap.size + 4; omega) _) (by simp [World.setCell])
      have hT1 : Blk W1 (w.heap.size + 4) 3 #[.int .i64 ((T : Int) + ((L : Int) + 2))] := by rw [hW1]; exact hT.set_ 0 _
      have hS1 : Blk W1 (w.heap.size + 3) 22 #[.slice A (bodyI (itms pre)).length ca] := by rw [hW1]; exact hS.other (p := ⟨w.heap.size + 4, 0, none⟩) (by show w.heap.size + 3 ≠ w.heap.size + 4; omega) _
      have ho1 : W1.ownsRow (w.heap.size + 6) 5 1 (.slice A (bodyI (itms pre)).length ca) (bodyI (itms pre)).length ((bodyI (itms pre)).map byteV) := by
        rw [hW1]
        exact ownsRow_setCell_below hown (a := ⟨w.heap.size + 4, 0, none⟩) (Nat.add_lt_add_left (by decide) _) _
      have hk1 : KeepsOthers W W1 := by rw [hW1]; exact KeepsOthers.setCell _ _ _
      have hb1 : Below w.heap.size W W1 := by rw [hW1]; exact (Below.refl _ W).setCell (p := ⟨w.heap.size + 4, 0, none⟩) (Nat.le_add_right _ _) _
      have HU := Lib.hid (unstuffed_any (some ⟨g, off + o, none⟩) l L hLe (c - o) W1 hby1 hcap)
      obtain ⟨W3, hW3⟩ : ∃ W3, W3 = W1.alloc (.cells #[.int .u8 46] 5 (1, 2)) := ⟨_, rfl⟩
      rw [← hW3] at HU
      have HBY3 : Hid (BytesAt W3 (some ⟨g, off + o, none⟩) l) := by rw [hW3]; exact RowAt.below hby1 ((Below.refl _ _).alloc (Nat.le_refl _) _)
      have HD3 : Hid (DcW w (itms pre) W3 (.slice none 0 0) 0 false) := by
        rw [hW3]
        exact hd1.later ((Below.refl _ W1).alloc (by have := hd1.ge; omega) _) (by simp)
      have HT3 : Hid (Blk W3 (w.heap.size + 4) 3 #[.int .i64 ((T : Int) + ((L : Int) + 2))]) := by rw [hW3]; exact hT1.alloc _
      have HS33 : Hid (Blk W3 (w.heap.size + 3) 22 #[.slice A (bodyI (itms pre)).length ca]) := by rw [hW3]; exact hS1.alloc _
      have HO3 : Hid (W3.ownsRow (w.heap.size + 6) 5 1 (.slice A (bodyI (itms pre)).length ca) (bodyI (itms pre)).length ((bodyI (itms pre)).map byteV)) := by rw [hW3]; exact ho1.alloc _
      have HK3 : Hid (KeepsOthers W W3) := by rw [hW3]; exact hk1.trans (KeepsOthers.alloc _ _)
      have HB3 : Hid (Below w.heap.size W W3) := by rw [hW3]; exact hb1.alloc (by have := hd1.ge; omega) _
      have c4 := hT.cell 0
      have f4 := hT.frozen 0
      simp at c4
      have e3 := HS33.out.cell 0
      have e4 := HT3.out.cell 0
      simp at e3 e4
      have hT0 : (0 : Int) ≤ (T : Int) := by omega
      have hL0 : (L : Int) ≤ 1000000 := by omega
      have hT9 : (T : Int) ≤ 1000002000000 := by omega
      clear hseq hdc hfine hS hown hT hgB hfit hall hpl hpl2 hby1 hd1 hT1 hS1 ho1 hk1 hb1 hLe hTe hW3
      by_cases hl : l = [46]
      · rw [decide_eq_true hl] at HU
        have HLL := Lib.hid hl
        clear hl
        have x0 := HD3.out.r0.cell 0
        have x1 := HD3.out.r1.cell 0
        have x2 := HD3.out.r2.cell 0
        have y0 := HD3.out.r0.frozen 0
        have y1 := HD3.out.r1.frozen 0
        have y2 := HD3.out.r2.frozen 0
        simp at x0 x1 x2
        gi_wp2_with (refine ⟨trivial, ?_⟩; gi_at_call 13; rw [← HW1.out]; refine (CallsIn.inRound l2 (callsIn_wide.2 HU.out)).mono ?_; rintro e w5 ⟨a5, c5, rfl, hun, rfl⟩; clear HU hun)
        gi_region
        all_goals gi_wp2
        all_goals
          have hd := (HD3.out.put (.slice A (bodyI (itms pre)).length ca) ((T : Int) + ((L : Int) + 2)) true).drew
          have hn : (T : Int) + ((L : Int) + 2) = (takenI (itms pre) : Nat) + 3 := by have h1 := HLE.out; rw [HLL.out] at h1; rw [← HTE.out, h1]; rfl
          have hb : Below w.heap.size w5 (((w5.setCell ⟨w.heap.size, 0, none⟩ (.slice A (bodyI (itms pre)).length ca)).setCell ⟨w.heap.size + 1, 0, none⟩ (.int .i64 ((T : Int) + ((L : Int) + 2)))).setCell ⟨w.heap.size + 2, 0, none⟩ (.bool true)).drew := ((((Below.refl _ w5).setCell (p := ⟨w.heap.size, 0, none⟩) (Nat.le_refl _) _).setCell (p := ⟨w.heap.size + 1, 0, none⟩) (Nat.le_add_right _ _) _).setCell (p := ⟨w.heap.size + 2, 0, none⟩) (Nat.le_add_right _ _) _).drew
          have ho := ownsRow_setCell_below (ownsRow_setCell_below (ownsRow_setCell_below HO3.out (a := ⟨w.heap.size, 0, none⟩) (Nat.lt_add_of_pos_right (by decide)) (.slice A (bodyI (itms pre)).length ca)) (a := ⟨w.heap.size + 1, 0, none⟩) (Nat.add_lt_add_left (by decide) _) (.int .i64 ((T : Int) + ((L : Int) + 2)))) (a := ⟨w.heap.size + 2, 0, none⟩) (Nat.add_lt_add_left (by decide) _) (.bool true)
          have hk := (((HK3.out.trans (KeepsOthers.setCell _ ⟨w.heap.size, 0, none⟩ (.slice A (bodyI (itms pre)).length ca))).trans (KeepsOthers.setCell _ ⟨w.heap.size + 1, 0, none⟩ (.int .i64 ((T : Int) + ((L : Int) + 2))))).trans (KeepsOthers.setCell _ ⟨w.heap.size + 2, 0, none⟩ (.bool true))).trans (KeepsOthers.drew _)
          refine ⟨hk.from _, pre, ⟨(o, l, true), hf⟩, rfl, HF.out, .inr ⟨rfl, rfl, HLL.out, .slice A (bodyI (itms pre)).length ca, ?_, ho⟩⟩
          rw [← hn]
          exact hd
      · rw [decide_eq_false hl] at HU
        have HLL := Lib.hid hl
        clear hl
        gi_wp2_with (first
          | (refine ⟨trivial, ?_⟩; gi_at_call 13; rw [← HW1.out]; refine (CallsIn.inRound l2 (callsIn_wide.2 HU.out)).mono ?_; rintro e w5 ⟨a5, c5, rfl, hun, rfl⟩; clear HU; have HUN := Lib.hid hun; clear hun)
          | (gi_at_builtin; refine wpListIn_append_rows _ rfl _ _ 22 rfl (w.heap.size + 6) 5 i0 (.int .u8 0) 1 1 Tryd.underlying22 hi hz0 hz1 hz2 rfl (by decide) _ _ _ rfl HO3.out a5 (unstD l).length c5 ((unstD l).map byteV) rfl ?c1 (HUN.out.at_ _ HBY3.out) byteV_one ?c3 ?c4 ?c5 ?_))
        case c1 => rw [List.length_map, Nat.mul_one]
        case c3 => have h1 : (unstD l).length ≤ l.length := by unfold unstD; split <;> simp
                   have := HLE.out; unfold maxLen; omega
        case c4 => have h1 : (unstD l).length ≤ l.length := by unfold unstD; split <;> simp
                   have := HLE.out; omega
        case c5 => exact HD3.out.ge
        intro v6 w6 hown6 hg6
        have HS6 : Hid (StW (w.heap.size + 6) w5 w6 v6 (bodyI (itms pre) ++ unstD l)) := StW.grown ⟨HO3.out, Below.refl _ _, KeepsOthers.refl _, HD3.out.ge⟩ (unstD l) rfl rfl hown6 hg6
        have hul : (unstD l).length ≤ 1000000 := by
          have h1 : (unstD l).length ≤ l.length := by unfold unstD; split <;> simp
          have := HLE.out
          omega
        clear hown6 hg6
        gi_wp2_with (gi_at_builtin; refine wpListIn_append_text' _ rfl _ _ 22 9 rfl (w.heap.size + 6) 5 i0 Tryd.underlying22 Tryd.underlying9 hi hz0 hz1 hz2 _ _ _ rfl HS6.out.own ⟨#[13, 10]⟩ rfl ?c3 ?c4 ?c5 ?_)
        case c3 => unfold maxLen; rw [List.length_append]; show _ + 2 ≤ _; omega
        case c4 => rw [List.length_append]; show _ + 2 ≤ _; omega
        case c5 => exact Nat.le_trans HS6.out.hb HS6.out.low.size
        intro v7 w7 hown7 hg7
        obtain ⟨g7, c7, rfl⟩ := ownsRow_succ (k := (bodyI (itms pre)).length + (unstD l).length + 1) hown7
        have HS7 := Lib.hid (HS6.out.grown [13, 10] rfl rfl (by rw [List.length_append, List.map_append, List.append_assoc]; exact hown7) hg7)
        have hS7 := HS33.out.below HS7.out.low (Nat.add_lt_add_left (by decide) _)
        have HB7 := Lib.hid hS7
        have d0 := hS7.cell 0
        have f0 := hS7.frozen 0
        simp at d0
        clear hown7 hg7 hS7 HS6 hul
        gi_wp2
        have ho := HS7.out.own
        rw [List.append_assoc] at ho
        have hb7 : ∀ u, Below (w.heap.size + 3) w5 (w7.setCell ⟨w.heap.size + 3, 0, none⟩ u) := fun u => (HS7.out.low.mono (Nat.add_le_add_left (by decide) _)).setCell (p := ⟨w.heap.size + 3, 0, none⟩) (Nat.le_refl _) _
        have hd7 : ∀ u, DcW w (itms pre) (w7.setCell ⟨w.heap.size + 3, 0, none⟩ u) (.slice none 0 0) 0 false := fun u => HD3.out.later (hb7 u) (hb7 u).size
        refine ⟨((HK3.out.trans HS7.out.oth).trans (KeepsOthers.setCell _ _ _)).from _, HB3.out.trans ((hb7 _).mono (Nat.le_add_right _ _)), ?_⟩
        have hfi : fineI (itms pre ++ [(o, l, true)]) := fineI_snoc _ _ HF.out rfl HLL.out
        unfold DecI
        rw [itms_snoc]
        refine ⟨⟨(hd7 _).r0, (hd7 _).r1, (hd7 _).r2, (hd7 _).low, (hd7 _).ge⟩, hfi, ⟨_, HB7.out.set_ 0 _, ?_⟩, ?_⟩
        · rw [bodyI_snoc]
          exact ownsRow_setCell_below ho (a := ⟨w.heap.size + 3, 0, none⟩) (Nat.add_lt_add_left (by decide) _) _
        · rw [takenI_snoc]
          have h4 := (HT3.out.below HS7.out.low (Nat.add_lt_add_left (by decide) _)).other (p := ⟨w.heap.size + 3, 0, none⟩) (by show w.heap.size + 4 ≠ w.heap.size + 3; omega) (.slice (some ⟨g7, 0, none⟩) ((bodyI (itms pre)).length + (unstD l).length + 1 + 1) c7)
          rw [← HTE.out, ← HLE.out]
          have hn : ((T + (L + 2) : Nat) : Int) = (T : Int) + ((L : Int) + 2) := by omega
          rw [hn]
          exact h4
  case stop =>
    rintro D c' pre W hD0 hpre ⟨q, x, rfl, hfq, hx⟩ hD
    have hpre2 : itms q ++ [x.1] <+: itemsD 0 b := by rw [← itms_snoc]; exact hpre
    have HD : Hid (W.heap[D]? = some (.deferred (some [])) ∧ w.heap.size ≤ D) := ⟨hD, by omega⟩
    clear hseq hD hD0 hpre
    rcases hx with ⟨rfl, hxe, hdc⟩ | ⟨rfl, hxe, hx46, v, hdc, hown⟩
    · have HR := Lib.hid (read_open b (itms q) x.1 hpre2 hfq hxe)
      have HDC := Lib.hid hdc
      have x0 := hdc.r0.cell 0
      have x1 := hdc.r1.cell 0
      have x2 := hdc.r2.cell 0
      have y0 := hdc.r0.frozen 0
      have y1 := hdc.r1.frozen 0
      have y2 := hdc.r2.frozen 0
      simp at x0 x1 x2
      clear hpre2 hfq hxe hdc
      gi_wp2
      go_wp2
      have HP := Lib.hid (HDC.out.put (.slice none 0 0) 0 false)
      have HD7 : Hid ((((W.setCell ⟨w.heap.size, 0, none⟩ (.slice none 0 0)).setCell ⟨w.heap.size + 1, 0, none⟩ (.int .i64 0)).setCell ⟨w.heap.size + 2, 0, none⟩ (.bool false)).heap[D]? = some (.deferred (some []))) := (((KeepsOthers.setCell _ _ _).trans (KeepsOthers.setCell _ _ _)).trans (KeepsOthers.setCell _ _ _)).same D _ HD.out.1 rfl
      generalize ((W.setCell ⟨w.heap.size, 0, none⟩ (.slice none 0 0)).setCell ⟨w.heap.size + 1, 0, none⟩ (.int .i64 0)).setCell ⟨w.heap.size + 2, 0, none⟩ (.bool false) = W7 at *
      refine ⟨by simp, .inl ⟨_, _, rfl, run_takeDeferred HD7.out, ?_⟩⟩
      have HPP := Lib.hid (HP.out.by_ (row := some D) (grownBy_putObj' W7 D (.deferred none)) (fun r e => by injection e with e; subst e; exact ⟨HD.out.2, _, HD7.out, rfl⟩))
      have p0 := HPP.out.r0.cell 0
      have p1 := HPP.out.r1.cell 0
      have p2 := HPP.out.r2.cell 0
      simp at p0 p1 p2
      exact ⟨.tuple #[.slice none 0 0, .int .i64 0, .bool false], by simp [results, Tryd.f9, go_sem, p0, p1, p2], HPP.out.low, .inl ⟨HR.out, rfl⟩⟩
    · have HR := Lib.hid (read_end b (itms q) x.1 hpre2 hfq hxe hx46)
      have HDC := Lib.hid hdc
      have HOW := Lib.hid hown
      clear hpre2 hfq hxe hdc hown
      gi_wp2
      refine ⟨by simp, .inl ⟨_, _, rfl, run_takeDeferred HD.out.1, ?_⟩⟩
      have HPP := Lib.hid (HDC.out.by_ (row := some D) (grownBy_putObj' W D (.deferred none)) (fun r e => by injection e with e; subst e; exact ⟨HD.out.2, _, HD.out.1, rfl⟩))
      obtain ⟨A, ca, rfl⟩ := own_slice' HOW.out
      have p0 := HPP.out.r0.cell 0
      have p1 := HPP.out.r1.cell 0
      have p2 := HPP.out.r2.cell 0
      simp at p0 p1 p2
      have ho := own_by (row := some D) HOW.out (grownBy_putObj' W D (.deferred none)) (fun r e => by injection e with e; subst e; exact ⟨_, HD.out.1, rfl⟩)
      exact ⟨.tuple #[.slice A (bodyI (itms q)).length ca, .int .i64 ((takenI (itms q) : Nat) + 3), .bool true], by simp [results, Tryd.f9, go_sem, p0, p1, p2], HPP.out.low, .inr ⟨_, _, _, HR.out, rfl, ownsRow_from ho (by omega)⟩⟩
  case done =>
    rintro D xs W hD0 hxs ⟨hdc, hfine, _, _⟩ hD
    have HR := Lib.hid (read_all b (itms xs) hxs hfine)
    have HD : Hid (W.heap[D]? = some (.deferred (some [])) ∧ w.heap.size ≤ D) := ⟨hD, by omega⟩
    have HDC := Lib.hid hdc
    have x0 := hdc.r0.cell 0
    have x1 := hdc.r1.cell 0
    have x2 := hdc.r2.cell 0
    have y0 := hdc.r0.frozen 0
    have y1 := hdc.r1.frozen 0
    have y2 := hdc.r2.frozen 0
    simp at x0 x1 x2
    clear hseq hD hD0 hxs hfine hdc
    go_wp2
    have HP := Lib.hid (HDC.out.put (.slice none 0 0) 0 false)
    have HD7 : Hid ((((W.setCell ⟨w.heap.size, 0, none⟩ (.slice none 0 0)).setCell ⟨w.heap.size + 1, 0, none⟩ (.int .i64 0)).setCell ⟨w.heap.size + 2, 0, none⟩ (.bool false)).heap[D]? = some (.deferred (some []))) := (((KeepsOthers.setCell _ _ _).trans (KeepsOthers.setCell _ _ _)).trans (KeepsOthers.setCell _ _ _)).same D _ HD.out.1 rfl
    generalize ((W.setCell ⟨w.heap.size, 0, none⟩ (.slice none 0 0)).setCell ⟨w.heap.size + 1, 0, none⟩ (.int .i64 0)).setCell ⟨w.heap.size + 2, 0, none⟩ (.bool false) = W7 at *
    refine ⟨by simp, .inl ⟨_, _, rfl, run_takeDeferred HD7.out, ?_⟩⟩
    have HPP := Lib.hid (HP.out.by_ (row := some D) (grownBy_putObj' W7 D (.deferred none)) (fun r e => by injection e with e; subst e; exact ⟨HD.out.2, _, HD7.out, rfl⟩))
    have p0 := HPP.out.r0.cell 0
    have p1 := HPP.out.r1.cell 0
    have p2 := HPP.out.r2.cell 0
    simp at p0 p1 p2
    exact ⟨.tuple #[.slice none 0 0, .int .i64 0, .bool false], by simp [results, Tryd.f9, go_sem, p0, p1, p2], HPP.out.low, .inl ⟨HR.out, rfl⟩⟩
end Go.Proofs.YtlpplmcploddaaaDoor
