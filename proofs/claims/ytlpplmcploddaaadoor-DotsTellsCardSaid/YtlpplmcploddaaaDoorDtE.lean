/-
  The contract of dots.Encode. Conditions: the bytes lie in memory, at most 1000000 of them; the library's MaxLen holds some number.
-/
import Derived.Test.YtlpplmcploddaaaDoorDtC
namespace Go.Proofs.YtlpplmcploddaaaDoor
open Go.RowKit Go.Shelf

attribute [local go_sem] Oper.semAt_some

theorem own_by {W W' : World} {B z n : Nat} {e : TypeId} {v : Value} {xs : List Value} {row : Option Nat} (h : W.ownsRow B e z v n xs) (hg : W.grownBy W' row) (hr : ∀ r, row = some r → ∃ o : Obj, W.heap[r]? = some o ∧ o.isCells = false) : W'.ownsRow B e z v n xs := by
  refine h.kept hg ?_
  rcases h.2 with ⟨rfl, _⟩ | ⟨g, cap, cur, rfl, _, hgb, _⟩
  · exact .inl rfl
  · refine .inr fun e => ?_
    obtain ⟨o, ho, hc⟩ := hr g e.symm
    rw [hgb] at ho
    injection ho with ho
    subst ho
    cases hc
theorem blk_by {W W' : World} {g : Nat} {t : TypeId} {cs : Array Value} {row : Option Nat} (h : Blk W g t cs) (hg : W.grownBy W' row) (hr : ∀ r, row = some r → ∃ o : Obj, W.heap[r]? = some o ∧ o.isCells = false) : Blk W' g t cs := by
  refine h.kept hg (fun e => ?_)
  obtain ⟨o, ho, hc⟩ := hr g e.symm
  rw [show W.heap[g]? = _ from h] at ho
  injection ho with ho
  subst ho
  cases hc
/-- a line of bytes that lie in memory -/
theorem itm_at {W : World} {g off : Nat} {b : List UInt8} (hg : g < W.heap.size) (hc : ∀ j (h : j < b.length), W.cell? ⟨g, off + j, none⟩ = some (byteV b[j])) (hb : b.length ≤ 1000000) (x : ItmF b) : BytesAt W (some ⟨g, off + x.1.1, none⟩) x.1.2.1 ∧ (x.1.2.1 = [] ∨ x.1.1 + x.1.2.1.length ≤ b.length) := by
  obtain ⟨⟨o, l, f⟩, hf⟩ := x
  unfold FitD at hf
  simp only at hf ⊢
  have h1 := congrArg List.length hf
  rw [List.length_take, List.length_drop] at h1
  refine ⟨⟨by rw [List.length_map]; unfold maxLen; omega, fun h0 => ⟨g, off + o, rfl, hg, fun j hj => ?_⟩⟩, ?_⟩
  · rw [List.length_map] at hj
    have h2 : l[j]? = b[o + j]? := by
      have := congrArg (fun (t : List UInt8) => t[j]?) hf
      simp only [List.getElem?_take, if_pos hj, List.getElem?_drop] at this
      exact this.symm
    rw [List.getElem?_eq_getElem hj, List.getElem?_eq_getElem (by omega)] at h2
    injection h2 with h2
    rw [Nat.add_assoc, hc (o + j) (by omega), List.getElem_map, h2]
  · cases l with
    | nil => exact .inl rfl
    | cons y r => right; simp only [List.length_cons] at h1 ⊢; omega
/-- a text is appended, within a round -/
theorem wpListIn_append_text' {F : Fence} {n : Nat} {P : Program} (w : World) {ops : Array Oper} {rest : List Oper} {o : Oper} {a : Act} {Q : Exit → Act → World → Prop} (hg : o.guard = none) (sl x : Operand) (t u : TypeId)
    (hop : o.op = .call { callee := .builtin .append, args := #[sl, x], argTypes := #[t, u] })
    (base : Nat) (e : TypeId) (i : TypeInfo) (ht : P.underlying t = some (.slice e)) (hu : P.underlying u = some .string) (hi : P.info? e = some i) (hz : i.zero = some (.int .u8 0))
    (hsize : i.size = 1) (hby : i.bytes = 1) (v : Value) (k : Nat) (xs : List Value) (hs : a.eval sl = v) (hown : w.ownsRow base e 1 v k xs) (s : ByteArray) (hx : a.eval x = .string s)
    (h63 : k + s.size ≤ maxLen) (hbytes : k + s.size ≤ 140737488355328) (hbase : base ≤ w.heap.size)
    (hK : ∀ v' w', w'.ownsRow base e 1 v' (k + s.size) (xs ++ Lib.strCells s) → w.grownBy w' v.ownBlock → wpListIn F n P ops Q rest (a.put o.dst v') w') :
    wpListIn F n P ops Q (o :: rest) a w := by
  refine wpListIn_plain hg fun K hK' => ?_
  obtain ⟨v', w', hrun, r1, r2, _⟩ := Lib.run_append_own_string (P := P) w base t u o.type e i ht hu hi hz hsize hby v k xs hown s h63 hbytes hbase
  unfold Oper.wpIn
  refine ⟨?_, ?_⟩
  · simp [Oper.about, hop, resolve, Target.leads, Sem.run_pure]
  · rw [Oper.semAt_plain F _ _ (by rw [hop]; intro c hc'; cases hc')]
    simp [execOp, hop, resolve, invoke, builtin, hs, hx, hrun, Result.andThen]
    exact hK' _ _ (hK v' w' r1 r2)
/-- a row that may be empty is appended, within a round -/
theorem wpListIn_append_rows {F : Fence} {n : Nat} {P : Program} (w : World) {ops : Array Oper} {rest : List Oper} {o : Oper} {a : Act} {Q : Exit → Act → World → Prop} (hg : o.guard = none) (s x : Operand) (t : TypeId)
    (hop : o.op = .call { callee := .builtin .append, args := #[s, x], argTypes := #[t, t] })
    (base : Nat) (e : TypeId) (i : TypeInfo) (z : Value) (size bytes : Nat) (ht : P.underlying t = some (.slice e)) (hi : P.info? e = some i) (hz : i.zero = some z)
    (hsize : i.size = size) (hby : i.bytes = bytes) (hzs : z.cells.size = size) (hsz : 0 < size)
    (v : Value) (k : Nat) (xs : List Value) (hs : a.eval s = v) (hown : w.ownsRow base e size v k xs)
    (A : Option Addr) (m c : Nat) (news : List Value) (hx : a.eval x = .slice A m c) (hl : news.length = m * size) (hnews : RowAt w A news) (h1 : ∀ u ∈ news, u.oneCell' = true)
    (h63 : k + m ≤ maxLen) (hbytes : (k + m) * bytes ≤ 140737488355328) (hbase : base ≤ w.heap.size)
    (hK : ∀ v' w', w'.ownsRow base e size v' (k + m) (xs ++ news) → w.grownBy w' v.ownBlock → wpListIn F n P ops Q rest (a.put o.dst v') w') : wpListIn F n P ops Q (o :: rest) a w := by
  by_cases hm : m = 0
  · subst hm
    have hn : news = [] := List.eq_nil_of_length_eq_zero (by omega)
    subst hn
    refine wpListIn_plain hg fun K hK' => ?_
    have hrun := run_append_zero (P := P) (w := w) base t o.type e i size ht hi v k xs hown A c
    unfold Oper.wpIn
    refine ⟨?_, ?_⟩
    · simp [Oper.about, hop, resolve, Target.leads, Sem.run_pure]
    · rw [Oper.semAt_plain F _ _ (by rw [hop]; intro c hc'; cases hc')]
      simp [execOp, hop, resolve, invoke, builtin, hs, hx, hrun, Result.andThen]
      exact hK' _ _ (hK v w (by rw [List.append_nil]; exact hown) (World.grownBy.refl _ _))
  · have h0 : 0 < news.length := by rw [hl]; exact Nat.mul_pos (by omega) hsz
    obtain ⟨b, off, rfl, _, hc⟩ := hnews.row h0
    refine wpListIn_append_own w hg s x t hop base e i z size bytes ht hi hz hsize hby hzs hsz v k xs hs hown ⟨b, off, none⟩ m c news hx hl ?_ h1 h63 hbytes hbase (fun v' w' k1 k2 _ => hK v' w' k1 k2)
    intro j u hj
    obtain ⟨hj2, rfl⟩ := List.getElem?_eq_some_iff.1 hj
    rw [Addr.add_mid]
    exact hc j hj2
def partF {b : List UInt8} (xs : List (ItmF b)) : List UInt8 := partS (xs.map (·.1))
theorem partF_snoc {b : List UInt8} (xs : List (ItmF b)) (x : ItmF b) : partF (xs ++ [x]) = partF xs ++ (stuffD x.1.2.1 ++ [13, 10]) := by
  unfold partF
  rw [List.map_append, List.map_singleton, partS_snoc]
  rfl
theorem itm_len {b : List UInt8} (x : ItmF b) : x.1.2.1.length ≤ b.length := by
  obtain ⟨⟨o, l, f⟩, hf⟩ := x
  have h1 := congrArg List.length hf
  rw [List.length_take, List.length_drop] at h1
  simp only at h1 ⊢
  omega
theorem partF_len {b : List UInt8} (hb : b.length ≤ 1000000) (xs : List (ItmF b)) : (partF xs).length ≤ xs.length * 1000003 := by
  induction xs with
  | nil => exact Nat.zero_le _
  | cons x r ih =>
    have h1 := itm_len x
    have h2 : (stuffD x.1.2.1).length ≤ x.1.2.1.length + 1 := by unfold stuffD; split <;> simp
    unfold partF partS lineS at *
    simp only [List.map_cons, List.flatMap_cons, List.length_append, List.length_cons, List.length_nil] at *
    omega
/-- what of a body is sent so far -/
def EncI (w : World) (b : List UInt8) (xs : List (ItmF b)) (W : World) : Prop :=
  (∃ v, Blk W w.heap.size 22 #[v] ∧ W.ownsRow (w.heap.size + 2) 5 1 v (partF xs).length ((partF xs).map byteV)) ∧ Below w.heap.size w W ∧ w.heap.size + 2 ≤ W.heap.size
set_option maxRecDepth 100000 in
set_option maxHeartbeats 4000000 in
theorem encode_any (a : Option Addr) (b : List UInt8) (m : Nat) (hm : b.length = m) (c : Nat) (hc : m ≤ c) (hm2 : m ≤ 1000000) (w : World) (h : BytesAt w a b) (mx : Int) (hmx : w.cell? ⟨0, 0, none⟩ = some (.int .i64 mx)) :
    Calls Tryd.prog 11 #[.slice a m c] w fun e w' => ∃ g' c', e = .returned (.slice (some ⟨g', 0, none⟩) (sentD b).length c') ∧ w'.ownsRow w.heap.size 5 1 (.slice (some ⟨g', 0, none⟩) (sentD b).length c') (sentD b).length ((sentD b).map byteV) ∧ Below w.heap.size w w' := by
  obtain ⟨i0, hi, hz0, hz1, hz2⟩ := info_parts info8
  have hg0 : 0 < w.heap.size := World.block_lt_of_cell? w ⟨0, 0, none⟩ hmx
  refine (callsIn_wide (n := 6)).1 ?_
  refine callsIn_of_wp_marks Tryd.func11 rfl trivial ?_ rfl
  simp only [Tryd.ntmps11, List.size_toArray, List.length_cons, List.length_nil, Nat.reduceAdd, Nat.reduceSub, Array.replicate_succ, Array.replicate_zero, List.push_toArray, List.append_toArray, List.nil_append, List.cons_append]
  refine wpIn_wide.2 ?_
  go_wp2_with (go_at_call 15; refine (lines_any _ _ _ _).mono ?_; rintro e w1 ⟨rfl, rfl⟩)
  obtain ⟨g, off, hrow⟩ : ∃ g off, 0 < m → a = some ⟨g, off, none⟩ ∧ g < w.heap.size ∧ ∀ j (h : j < b.length), w.cell? ⟨g, off + j, none⟩ = some (byteV b[j]) := by
    by_cases h0 : 0 < m
    · obtain ⟨g, off, e1, e2, e3⟩ := RowAt.row h (by rw [List.length_map]; omega)
      exact ⟨g, off, fun _ => ⟨e1, e2, fun j hj => by rw [e3 j (by rw [List.length_map]; exact hj), List.getElem_map]⟩⟩
    · exact ⟨0, 0, fun h => absurd h h0⟩
  have hW2 : Below w.heap.size w ((w.alloc (.cells #[.slice none 0 0] 22)).alloc (.cells #[.slice a m c] 22)) := ((Below.refl _ w).alloc (Nat.le_refl _) _).alloc (by simp) _
  have hsz2 : ((w.alloc (.cells #[.slice none 0 0] 22)).alloc (.cells #[.slice a m c] 22)).heap.size = w.heap.size + 2 := by simp
  have hS2 := (Blk.new w 22 #[.slice none 0 0]).alloc (.cells #[.slice a m c] 22)
  have hX2 : Blk ((w.alloc (.cells #[.slice none 0 0] 22)).alloc (.cells #[.slice a m c] 22)) (w.heap.size + 1) 22 #[.slice a m c] := Blk.new_at _ _ _ _ (by simp)
  generalize (w.alloc (.cells #[.slice none 0 0] 22)).alloc (.cells #[.slice a m c] 22) = W2 at *
  have hseq := lines_seq 5 (by omega) (w.heap.size + 1) w.heap.size g off b m hm (by omega) a c hc mx W2 hX2 (by omega) ((hW2.cell (p := ⟨0, 0, none⟩) hg0).trans hmx) hg0 (fun h => by
    obtain ⟨e1, e2, e3⟩ := hrow h
    exact ⟨e1, e2, fun j hj => (hW2.cell (p := ⟨g, off + j, none⟩) e2).trans (e3 j hj)⟩)
  have HSZ := Lib.hid hsz2
  have HROW := Lib.hid hrow
  have HM := Lib.hid hm
  have HMX := Lib.hid hmx
  refine (wpIn_wide (n := 6)).1 ?_
  refine wpIn_rangeFunc_ownG rfl (by omega) (gf := 21) (lb := #[.pointer (some ⟨w.heap.size + 1, 0, none⟩)]) rfl trivial (enters_of Tryd.func21 (by kernel_rfl) rfl)
    hseq (fun h k => belowK_t h k) (fun W l o o' => belowK_b (by omega) W l o o') (Below.refl _ _) (fun _ => rfl)
    (EncI w b) (fun _ _ _ => False)
    (fun s A B' row hs hg hr => by
      obtain ⟨⟨v, h1, h2⟩, h3, h4⟩ := hs
      exact ⟨⟨v, blk_by h1 hg (fun r e => (hr r e).2), own_by h2 hg (fun r e => (hr r e).2)⟩, h3.grown hg h3.size (fun k e => by have := (hr k e).1; omega), Nat.le_trans h4 hg.size⟩)
    (fun _ _ _ _ _ hs _ _ => hs)
    ⟨⟨_, hS2, World.ownsRow_nil _ _ _ _⟩, hW2, by omega⟩
    (fun x => { tmps := #[.slice a m c, undef, .slice none 0 0, .pointer (some ⟨w.heap.size, 0, none⟩), .slice (some ⟨g, off + x.1.1, none⟩) x.1.2.1.length (c - x.1.1), .slice a m c, .func (.func 21) #[] #[.pointer (some ⟨w.heap.size + 1, 0, none⟩)], .slice (some ⟨g, off + x.1.1, none⟩) x.1.2.1.length (c - x.1.1), .bool x.1.2.2, undef, undef, undef, undef, undef, undef], defers := [] }) ?assign ?body ?done ?stop
  case assign =>
    intro l x W K hK
    gi_wp2
    exact hK
  case stop =>
    intro D c pre W _ _ h
    exact h.elim
  case body =>
    rintro l2 pre x W ⟨⟨v, hS, hown⟩, hlow, hge⟩ hlt
    have hgm : BytesAt W (some ⟨g, off + x.1.1, none⟩) x.1.2.1 ∧ (x.1.2.1 = [] ∨ (x.1.1 + x.1.2.1.length ≤ m ∧ g < w.heap.size)) := by
      obtain ⟨e1, e2, e3⟩ := HROW.out (by omega)
      have := itm_at (off := off) (Nat.lt_of_lt_of_le e2 hlow.size) (fun j hj => (hlow.cell (p := ⟨g, off + j, none⟩) e2).trans (e3 j hj)) (by rw [HM.out]; exact hm2) x
      rw [HM.out] at this
      exact ⟨this.1, this.2.imp id fun h => ⟨h, e2⟩⟩
    obtain ⟨hgB, hfit⟩ := hgm
    have hgw : g < w.heap.size := (HROW.out (by omega)).2.1
    have hplen := partF_len (by rw [HM.out]; exact hm2) pre
    have hpl : (partF pre).length ≤ 1000003000000 := by
      have : pre.length ≤ 1000000 := by omega
      have := Nat.mul_le_mul_right 1000003 this
      omega
    have hilen := itm_len x
    have hcap : x.1.2.1.length ≤ c - x.1.1 := by
      rcases hfit with h | h
      · rw [h]; exact Nat.zero_le _
      · omega
    have HST := Lib.hid (stuffed_any (w.heap.size + 2) v (partF pre) x.1.2.1.length (some ⟨g, off + x.1.1, none⟩) x.1.2.1 rfl (c - x.1.1) W hown hge hgB (fun p e => by cases e; show g < _; omega) hcap (by omega))
    have c0 := hS.cell 0
    simp at c0
    have HSB := Lib.hid hS
    have HLOW := Lib.hid hlow
    have HGE := Lib.hid hge
    have HPN := Lib.hid (partF_snoc pre x)
    have HLEN : Hid ((partF pre).length + (stuffD x.1.2.1).length ≤ 1000005000000) := by
      have := (stuff_len x.1.2.1).2
      show _ ≤ _
      omega
    clear hseq hS hlow hge hown hgB hfit hplen hpl hilen hcap
    gi_wp2_with (first
      | (refine ⟨trivial, ?_⟩; gi_at_call 14; refine (CallsIn.inRound l2 (callsIn_wide.2 HST.out)).mono ?_; rintro e w5 ⟨v5, rfl, hst5⟩; have HS5 := Lib.hid hst5; clear hst5 HST)
      | (gi_at_builtin; refine wpListIn_append_text' _ rfl _ _ 22 9 rfl (w.heap.size + 2) 5 i0 Tryd.underlying22 Tryd.underlying9 hi hz0 hz1 hz2 _ _ _ rfl HS5.out.own ⟨#[13, 10]⟩ rfl ?c3 ?c4 ?c5 ?_))
    case c3 => have := HLEN.out; unfold maxLen; rw [List.length_append]; show _ + 2 ≤ _; omega
    case c4 => have := HLEN.out; rw [List.length_append]; show _ + 2 ≤ _; omega
    case c5 => exact Nat.le_trans HS5.out.hb HS5.out.low.size
    intro v6 w6 hown6 hg6
    obtain ⟨g6, c6, rfl⟩ := ownsRow_succ (k := (partF pre).length + (stuffD x.1.2.1).length + 1) hown6
    have HS6 := Lib.hid (HS5.out.grown [13, 10] rfl rfl (by rw [List.length_append, List.map_append, List.append_assoc]; exact hown6) hg6)
    have hS6 := HSB.out.below HS6.out.low (Nat.lt_add_of_pos_right (by decide))
    have HB6 := Lib.hid hS6
    have d0 := hS6.cell 0
    have f0 := hS6.frozen 0
    simp at d0
    clear hown6 hg6 hS6 HS5 HSB c0
    gi_wp2
    have ho := HS6.out.own
    rw [List.append_assoc] at ho
    have hb6 : ∀ u, Below w.heap.size W (w6.setCell ⟨w.heap.size, 0, none⟩ u) := fun u => (HS6.out.low.mono (Nat.le_add_right _ 2)).setCell (p := ⟨w.heap.size, 0, none⟩) (Nat.le_refl _) _
    refine ⟨(HS6.out.oth.trans (KeepsOthers.setCell _ _ _)).from _, hb6 _, ⟨_, HB6.out.set_ 0 _, ?_⟩, HLOW.out.trans (hb6 _), Nat.le_trans HGE.out (hb6 _).size⟩
    rw [HPN.out]
    exact ownsRow_setCell_below ho (a := ⟨w.heap.size, 0, none⟩) (Nat.lt_add_of_pos_right (by decide)) _
  case done =>
    rintro D xs W hD0 hxs ⟨⟨v, hS, hown⟩, hlow, hge⟩ hD
    have hps : partF xs = partS (itemsD 0 b) := by unfold partF; rw [hxs]
    rw [hps] at hown
    have hpl : (partS (itemsD 0 b)).length ≤ 1000003000000 := by
      have h1 := partF_len (by rw [HM.out]; exact hm2) xs
      have h2 : xs.length ≤ 1000000 := by
        have h3 := congrArg List.length hxs
        rw [List.length_map] at h3
        have h4 := items_few 0 b
        have := HM.out
        omega
      have := Nat.mul_le_mul_right 1000003 h2
      rw [← hps]
      omega
    have c0 := hS.cell 0
    simp at c0
    have HOW := Lib.hid hown
    have HLOW := Lib.hid hlow
    have HD : Hid (W.heap[D]? = some (.deferred (some [])) ∧ w.heap.size + 2 ≤ D ∧ w.heap.size + 2 ≤ W.heap.size) := ⟨hD, by omega, hge⟩
    clear hseq hS hlow hge hown hD hD0 hxs hps
    go_wp2_with (at_builtin; refine Lib.wpList_append_own_string _ rfl _ _ 22 9 rfl (w.heap.size + 2) 5 i0 Tryd.underlying22 Tryd.underlying9 hi hz0 hz1 hz2 _ _ _ rfl HOW.out ⟨#[46, 13, 10]⟩ rfl ?c3 ?c4 ?c5 ?_)
    case c3 => unfold maxLen; show _ + 3 ≤ _; omega
    case c4 => show _ + 3 ≤ _; omega
    case c5 => exact HD.out.2.2
    intro v7 w7 hown7 hg7 _
    have HO7 : Hid (w7.ownsRow (w.heap.size + 2) 5 1 v7 (sentD b).length ((sentD b).map byteV)) := by
      show World.ownsRow _ _ _ _ _ _ _
      unfold sentD
      rw [List.length_append, List.map_append]
      exact hown7
    have HL7 : Hid (Below w.heap.size w w7) := HLOW.out.grown hg7 HLOW.out.size (fun k hk => by have := (HOW.out.lt k hk).1; omega)
    have HD7 : Hid (w7.heap[D]? = some (.deferred (some [])) ∧ w.heap.size ≤ D) := by
      refine ⟨(hg7.block D (Array.getElem?_eq_some_iff.1 HD.out.1).1 fun e => ?_).trans HD.out.1, by have := HD.out.2.1; omega⟩
      rcases HOW.out.2 with ⟨rfl, _⟩ | ⟨q, cap, cur, rfl, _, hqc, _⟩
      · cases e
      · injection e with e
        subst e
        have := HD.out.1
        rw [hqc] at this
        cases this
    have hne : (sentD b).length = (partS (itemsD 0 b)).length + 3 := by unfold sentD; rw [List.length_append]; rfl
    have hpos : ∃ k, (sentD b).length = k + 1 := ⟨(partS (itemsD 0 b)).length + 2, hne⟩
    obtain ⟨k, hk⟩ := hpos
    have ho7 := HO7.out
    rw [hk] at ho7
    obtain ⟨g7, c7, rfl⟩ := ownsRow_succ ho7
    clear hown7 hg7 HOW HLOW HD c0 ho7 hne
    go_wp2
    refine ⟨by simp, .inl ⟨_, _, rfl, run_takeDeferred HD7.out.1, ?_⟩⟩
    have hb := belowK_b (w := w) (Nat.le_refl _) w7 D _ (.deferred none) HD7.out.2 HD7.out.1 rfl rfl
    refine ⟨_, results_tmp rfl _ _ _, g7, c7, ?_, ?_, HL7.out.trans hb⟩
    · simp [hk]
    · have := own_by (row := some D) HO7.out (grownBy_putObj' w7 D (.deferred none)) (fun r e => by injection e with e; subst e; exact ⟨_, HD7.out.1, rfl⟩)
      rw [← hk] at this
      exact ownsRow_from this (by omega)
end Go.Proofs.YtlpplmcploddaaaDoor
