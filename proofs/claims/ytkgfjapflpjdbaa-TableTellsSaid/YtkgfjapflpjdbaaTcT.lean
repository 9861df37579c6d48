/-
  The contracts of frankinglaw08.Same and frankinglaw10.Same, for any two tables. Conditions: the tables lie in memory; the number of classes is one of Go's.
-/
import Derived.Test.YtkgfjapflpjdbaaTcS
namespace Go.Proofs.Ytkgfjapflpjdbaa
open Go.RowKit

theorem lits_bytes (of : List UInt8) (tl : List Value) (d : Nat) : ∀ (is : List Nat), (∀ i ∈ is, i < of.length) →
    (is.mapM fun i => Try.prog.keyLits (d + 1) 5 (((of.map byteV ++ tl).drop (i * 1)).take 1)) = some (is.map fun i => [Lit.int .u8 ((of[i]?.getD 0).toNat : Int)])
  | [], _ => rfl
  | i :: is, h => by
    have hi := h i (List.mem_cons_self ..)
    have hwf : (Lit.int .u8 ((of[i]?.getD 0).toNat : Int)).wf = true := by
      have := (of[i]?.getD 0).toNat_lt
      generalize (of[i]?.getD 0).toNat = m at *
      simp [Lit.wf, IntKind.min, IntKind.max, IntKind.signed, IntKind.bits]
      omega
    have e : ((of.map byteV ++ tl).drop (i * 1)).take 1 = [.int .u8 ((of[i]?.getD 0).toNat : Int)] := by
      rw [Nat.mul_one, List.drop_append_of_le_length (by simp; omega), List.drop_eq_getElem_cons (by simpa using hi)]
      simp [byteV, List.getElem?_eq_getElem hi]
    rw [List.mapM_cons, e, lits_bytes of tl d is (fun k hk => h k (List.mem_cons_of_mem _ hk))]
    simp only [Program.keyLits, Try.underlying5, hwf, and_self, if_true]
    rfl
theorem flat_one {α : Type} (l : List Nat) (f : Nat → α) : (l.map fun i => [f i]).flatten = l.map f := by
  induction l with
  | nil => rfl
  | cons x r ih => rw [List.map_cons, List.flatten_cons, ih]; rfl
def clLits (of : List UInt8) (many : Int) : List Lit := (List.range 256).map (fun i => Lit.int .u8 ((of[i]?.getD 0).toNat : Int)) ++ [.int .i64 many]
theorem cl_lits (of : List UInt8) (many : Int) (h : of.length = 256) (hw : (Lit.int .i64 many).wf = true) (d : Nat) : Try.prog.keyLits (d + 3) 24 (clCells of many) = some (clLits of many) := by
  have hc : Try.prog.cellsOf 24 = 257 := by kernel_rfl
  have ha : Try.prog.cellsOf 22 = 256 := by kernel_rfl
  have hu : Try.prog.cellsOf 5 = 1 := by kernel_rfl
  have hi : Try.prog.cellsOf 3 = 1 := by kernel_rfl
  have hl := clCells_len of many h
  have e1 : ((clCells of many).drop 0).take 256 = of.map byteV := by
    unfold clCells
    rw [List.drop_zero, List.take_append_of_le_length (by simp [h]), List.take_of_length_le (by simp [h])]
  have e2 : ((clCells of many).drop 256).take 1 = [.int .i64 many] := by
    unfold clCells
    have : (256 : Nat) = (of.map byteV).length := by simp [h]
    rw [this, List.drop_left]
    rfl
  have hb := lits_bytes of [] d (List.range 256) (fun i hi => by rw [h]; exact List.mem_range.1 hi)
  rw [List.append_nil] at hb
  have k1 : Try.prog.keyLits (d + 2) 22 (of.map byteV) = some ((List.range 256).map fun i => Lit.int .u8 ((of[i]?.getD 0).toNat : Int)) := by
    unfold Program.keyLits
    simp only [Try.underlying22, ha, hu, List.length_map, h, if_true]
    rw [hb, Option.map_some, flat_one]
  have k2 : Try.prog.keyLits (d + 2) 3 [.int .i64 many] = some [.int .i64 many] := by
    unfold Program.keyLits
    simp only [Try.underlying3, hw, and_self, if_true]
  unfold Program.keyLits
  simp only [Try.underlying24, hc, hl]
  rw [if_pos ⟨trivial, by kernel_rfl⟩, List.mapM_cons, List.mapM_cons, List.mapM_nil]
  simp only [ha, hi, e1, e2, k1, k2]
  rfl
theorem clLits_iff (of1 of2 : List UInt8) (m1 m2 : Int) (h1 : of1.length = 256) (h2 : of2.length = 256) : clLits of1 m1 = clLits of2 m2 ↔ of1 = of2 ∧ m1 = m2 := by
  constructor
  · intro h
    unfold clLits at h
    obtain ⟨e1, e2⟩ := List.append_inj h (by simp)
    refine ⟨?_, by simpa using e2⟩
    apply List.ext_getElem (by rw [h1, h2])
    intro i hi1 hi2
    have := congrArg (fun l => l[i]?) e1
    simp only [List.getElem?_map, List.getElem?_range (show i < 256 by omega), Option.map_some, Option.some.injEq, Lit.int.injEq, true_and, List.getElem?_eq_getElem hi1, List.getElem?_eq_getElem hi2, Option.getD_some] at this
    exact UInt8.toNat.inj (by omega)
  · rintro ⟨rfl, rfl⟩
    rfl
theorem classes_eq (t1 t2 : Tab) (h1 : t1.of.length = 256) (h2 : t2.of.length = 256) (hm1 : (Lit.int .i64 t1.many).wf = true) (hm2 : (Lit.int .i64 t2.many).wf = true) (r0 : Bool) (hr0 : r0 = true ↔ t1.of = t2.of ∧ t1.many = t2.many) (W : World) :
    (EqOp 24 (.agg (clCells t1.of t1.many).toArray) (.agg (clCells t2.of t2.many).toArray)).run Try.prog W = .ok (.bool r0) W := by
  have hc : Try.prog.cellsOf 24 = 257 := by kernel_rfl
  have fx : ∀ (t : Tab), t.of.length = 256 → Value.formed Try.prog 24 (.agg (clCells t.of t.many).toArray) = true := fun t ht => by
    have := clCells_len t.of t.many ht
    simp [Value.formed, Try.underlying24, hc, this]
  obtain ⟨r, hr, hiff⟩ := run_equalIn_deep (P := Try.prog) 9997 3 24 (by kernel_rfl) W 3 3 (.agg (clCells t1.of t1.many).toArray) (.agg (clCells t2.of t2.many).toArray) _ _ (fx t1 h1) (fx t2 h2) (cl_lits t1.of t1.many h1 hm1 0) (cl_lits t2.of t2.many h2 hm2 0)
  rw [clLits_iff _ _ _ _ h1 h2, ← hr0] at hiff
  have : r = r0 := by rw [Bool.eq_iff_iff]; exact hiff
  subst this
  have hr2 : (Op.equal 24 (.agg (clCells t1.of t1.many).toArray) (.agg (clCells t2.of t2.many).toArray)).run Try.prog W = .ok r W := hr
  unfold EqOp
  simp only [binOp, Sem.run_bind, hr2, Result.andThen_ok, Sem.run_pure]
set_option maxRecDepth 100000 in
set_option maxHeartbeats 1000000 in
theorem same8_same (t1 t2 : Tab) (p p2 : Lie) (w : World) (r : Bool) (hr : r = true ↔ t1.dmany = t2.dmany ∧ t1.next = t2.next ∧ t1.tags = t2.tags) (h : TabAt w t1 p) (h2 : TabAt w t2 p2) :
    Calls Try.prog 30 #[.agg #[.int .i64 t1.dmany, .slice p.an t1.next.length p.cn, .slice p.at_ t1.tags.length p.ct], .agg #[.int .i64 t2.dmany, .slice p2.an t2.next.length p2.cn, .slice p2.at_ t2.tags.length p2.ct]] w fun e w' => e = .returned (.bool r) ∧ Below w.heap.size w w' := by
  obtain ⟨r1, hr1⟩ : ∃ x : Bool, (x = true ↔ t1.next = t2.next) := ⟨decide _, decide_eq_true_iff⟩
  obtain ⟨r2, hr2⟩ : ∃ x : Bool, (x = true ↔ t1.tags = t2.tags) := ⟨decide _, decide_eq_true_iff⟩
  have HRR : Hid (r = ((t1.dmany == t2.dmany) && (r1 && r2))) := by
    show _ = _
    rw [Bool.eq_iff_iff, hr, Bool.and_eq_true, Bool.and_eq_true, hr1, hr2]
    simp
  have HL : Hid (∀ W, Below w.heap.size w W → Calls Try.prog 42 #[.slice p.an t1.next.length p.cn, .slice p2.an t2.next.length p2.cn] W fun e w' => e = .returned (.bool r1) ∧ Below W.heap.size W w') := fun W hb => ints_same _ _ _ _ _ _ _ _ hr1 (RowAt.below h.next hb) (RowAt.below h2.next hb)
  have HM : Hid (∀ W, Below w.heap.size w W → Calls Try.prog 42 #[.slice p.at_ t1.tags.length p.ct, .slice p2.at_ t2.tags.length p2.ct] W fun e w' => e = .returned (.bool r2) ∧ Below W.heap.size W w') := fun W hb => ints_same _ _ _ _ _ _ _ _ hr2 (RowAt.below h.tags hb) (RowAt.below h2.tags hb)
  have HB : Hid (Below w.heap.size w ((w.alloc (.cells #[.int .i64 t1.dmany, .slice p.an t1.next.length p.cn, .slice p.at_ t1.tags.length p.ct] 27)).alloc (.cells #[.int .i64 t2.dmany, .slice p2.an t2.next.length p2.cn, .slice p2.at_ t2.tags.length p2.ct] 27))) := ((Below.refl _ _).alloc (Nat.le_refl _) _).alloc (by simp) _
  clear h h2 hr hr1 hr2
  have TOK : Hid True := trivial
  generalize t1.dmany = d1 at *
  generalize t2.dmany = d2 at *
  generalize t1.next.length = x1 at *
  generalize t2.next.length = x2 at *
  generalize t1.tags.length = y1 at *
  generalize t2.tags.length = y2 at *
  cases hq : (d1 == d2) with
  | false =>
    rw [hq] at HRR
    go_enter Try.func30, Try.ntmps30
    go_wp2
    go_ret
    exact ⟨ret_bool HRR.out.symm, HB.out⟩
  | true =>
    rw [hq] at HRR
    cases r1
    · go_enter Try.func30, Try.ntmps30
      go_wp2_with (go_at_call 42; refine (HL.out _ HB.out).mono ?_; rintro e w2 ⟨rfl, hb2⟩; have HB2 := Lib.hid (HB.out.trans (hb2.mono HB.out.size)))
      go_ret
      exact ⟨ret_bool HRR.out.symm, HB2.out⟩
    · cases r2
      all_goals
        go_enter Try.func30, Try.ntmps30
        go_wp2_with (first
          | (clear TOK; go_at_call 42; refine (HL.out _ HB.out).mono ?_; rintro e w2 ⟨rfl, hb2⟩; have HB2 := Lib.hid (HB.out.trans (hb2.mono HB.out.size)); have q1 := (hb2.cell (p := ⟨w.heap.size + 1, 2, none⟩) (by simp)); have q2 := (hb2.cell (p := ⟨w.heap.size, 2, none⟩) (by simp; omega)); simp at q1 q2)
          | (go_at_call 42; refine (HM.out _ HB2.out).mono ?_; rintro e w3 ⟨rfl, hb3⟩; have HB3 := Lib.hid (HB2.out.trans (hb3.mono HB2.out.size))))
        go_ret
        exact ⟨ret_bool HRR.out.symm, HB3.out⟩
attribute [local go_sem ↓] loadOp_C loadOp_T eqOp_C
set_option maxRecDepth 100000 in
set_option maxHeartbeats 1000000 in
theorem same_same (t1 t2 : Tab) (p p2 : Lie) (C1 C2 : Array Value) (hC1 : (clCells t1.of t1.many).toArray = C1) (hC2 : (clCells t2.of t2.many).toArray = C2) (r r0 : Bool) (hr0 : r0 = true ↔ t1.of = t2.of ∧ t1.many = t2.many) (hr : r = true ↔ t1 = t2) (w : World) (h : TabAt w t1 p) (h2 : TabAt w t2 p2) (heq : ∀ W, (EqOp 24 (.agg C1) (.agg C2)).run Try.prog W = .ok (.bool r0) W) :
    Calls Try.prog 17 #[.agg (tabCells t1 p).toArray, .agg (tabCells t2 p2).toArray] w fun e w' => e = .returned (.bool r) ∧ Below w.heap.size w w' := by
  obtain ⟨r1, hr1⟩ : ∃ x : Bool, (x = true ↔ t1.dmany = t2.dmany ∧ t1.next = t2.next ∧ t1.tags = t2.tags) := ⟨decide _, decide_eq_true_iff⟩
  obtain ⟨r2, hr2⟩ : ∃ x : Bool, (x = true ↔ t1.names = t2.names) := ⟨decide _, decide_eq_true_iff⟩
  have HRR : Hid (r = (r0 && (r1 && r2))) := by
    show _ = _
    rw [Bool.eq_iff_iff, hr, Bool.and_eq_true, Bool.and_eq_true, hr0, hr1, hr2]
    constructor
    · rintro rfl
      exact ⟨⟨rfl, rfl⟩, ⟨rfl, rfl, rfl⟩, rfl⟩
    · rintro ⟨⟨e1, e2⟩, ⟨e3, e4, e5⟩, e6⟩
      cases t1
      cases t2
      simp only at e1 e2 e3 e4 e5 e6
      rw [e1, e2, e3, e4, e5, e6]
  obtain ⟨X1, hX1⟩ : ∃ X, (tabCells t1 p).toArray = X := ⟨_, rfl⟩
  obtain ⟨X2, hX2⟩ : ∃ X, (tabCells t2 p2).toArray = X := ⟨_, rfl⟩
  rw [hX1, hX2]
  have hb1 : Below w.heap.size w (w.alloc (.cells X1 30)) := (Below.refl _ _).alloc (Nat.le_refl _) _
  have hb2 : Below (w.alloc (.cells X1 30)).heap.size (w.alloc (.cells X1 30)) ((w.alloc (.cells X1 30)).alloc (.cells X2 30)) := (Below.refl _ _).alloc (Nat.le_refl _) _
  have i1 := TabIn.new h
  rw [hX1] at i1
  have i1 := i1.below hb2
  have i2 := TabIn.new (h2.below hb1)
  rw [hX2, World.size_alloc] at i2
  have HB : Hid (Below w.heap.size w ((w.alloc (.cells X1 30)).alloc (.cells X2 30))) := hb1.trans (hb2.mono (by simp))
  have HN : Hid (∀ W, Below ((w.alloc (.cells X1 30)).alloc (.cells X2 30)).heap.size ((w.alloc (.cells X1 30)).alloc (.cells X2 30)) W → W.cell? ⟨w.heap.size, 260, none⟩ = some (.slice p.ns t1.names.length p.cs) ∧ W.cell? ⟨w.heap.size + 1, 260, none⟩ = some (.slice p2.ns t2.names.length p2.cs) ∧ Calls Try.prog 31 #[.slice p.ns t1.names.length p.cs, .slice p2.ns t2.names.length p2.cs] W fun e w' => e = .returned (.bool r2) ∧ Below W.heap.size W w') := fun W hb => ⟨(i1.below hb).names, (i2.below hb).names, texts_same _ _ _ _ _ _ _ _ hr2 (i1.below hb).at_.names (i2.below hb).at_.names⟩
  have HM := Lib.hid (same8_same t1 t2 p p2 _ r1 hr1 i1.at_ i2.at_)
  have r1' := i1.read
  have r2' := i2.read
  rw [hC1] at r1'
  rw [hC2] at r2'
  have f1 := r1'.cls
  have f2 := r2'.cls
  have f3 := r1'.dmany
  have f4 := r2'.dmany
  have f5 := r1'.next
  have f6 := r2'.next
  have f7 := r1'.tags
  have f8 := r2'.tags
  clear h h2 hb1 hb2 i1 i2 r1' r2' hX1 hX2 hC1 hC2 hr hr0 hr1 hr2
  generalize t1.dmany = d1 at *
  generalize t2.dmany = d2 at *
  generalize t1.next.length = x1 at *
  generalize t2.next.length = x2 at *
  generalize t1.tags.length = y1 at *
  generalize t2.tags.length = y2 at *
  generalize t1.names.length = n1 at *
  generalize t2.names.length = n2 at *
  generalize hW : (w.alloc (.cells X1 30)).alloc (.cells X2 30) = W at *
  cases r0
  · go_enter Try.func17, Try.ntmps17
    go_wp2
    go_ret
    exact ⟨ret_bool HRR.out.symm, HB.out⟩
  · cases r1
    · go_enter Try.func17, Try.ntmps17
      go_wp2_with (go_at_call 30; refine HM.out.mono ?_; rintro e w2 ⟨rfl, hb2⟩; have HB2 := Lib.hid hb2; clear hb2)
      go_ret
      exact ⟨ret_bool HRR.out.symm, HB.out.trans (HB2.out.mono HB.out.size)⟩
    · cases r2
      all_goals
        go_enter Try.func17, Try.ntmps17
        go_wp2_with (first
          | (go_at_call 30; refine HM.out.mono ?_; rintro e w2 ⟨rfl, hb2⟩; have HB2 := Lib.hid hb2; have q1 := (HN.out _ hb2).1; have q2 := (HN.out _ hb2).2.1; clear hb2)
          | (go_at_call 31; refine (HN.out _ HB2.out).2.2.mono ?_; rintro e w3 ⟨rfl, hb3⟩; have HB3 := Lib.hid hb3; clear hb3))
        go_ret
        exact ⟨ret_bool HRR.out.symm, (HB.out.trans (HB2.out.mono HB.out.size)).trans (HB3.out.mono (Nat.le_trans HB.out.size HB2.out.size))⟩
/-- the contract of frankinglaw10.Same -/
theorem same_any (t1 t2 : Tab) (p p2 : Lie) (hm1 : (Lit.int .i64 t1.many).wf = true) (hm2 : (Lit.int .i64 t2.many).wf = true) (r : Bool) (hr : r = true ↔ t1 = t2) (w : World) (h : TabAt w t1 p) (h2 : TabAt w t2 p2) :
    Calls Try.prog 17 #[.agg (tabCells t1 p).toArray, .agg (tabCells t2 p2).toArray] w fun e w' => e = .returned (.bool r) ∧ Below w.heap.size w w' := by
  obtain ⟨r0, hr0⟩ : ∃ x : Bool, (x = true ↔ t1.of = t2.of ∧ t1.many = t2.many) := ⟨decide _, decide_eq_true_iff⟩
  exact same_same t1 t2 p p2 _ _ rfl rfl r r0 hr0 hr w h h2 (classes_eq t1 t2 h.of h2.of hm1 hm2 r0 hr0)
end Go.Proofs.Ytkgfjapflpjdbaa
