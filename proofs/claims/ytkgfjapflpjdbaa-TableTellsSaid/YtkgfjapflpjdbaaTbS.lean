/-
  The contract of table.reader.lessOne. Conditions: the reader lies in memory.
-/
import Derived.Test.YtkgfjapflpjdbaaTbR
import Derived.Outline
namespace Go.Proofs.Ytkgfjapflpjdbaa
open Go.RowKit Go.Shelf

/-- a block whose cells may be written -/
def FreeB (W : World) (g : Nat) : Prop := ∃ t cs, Blk W g t cs
theorem FreeB.lt {W : World} {g : Nat} (h : FreeB W g) : g < W.heap.size := by obtain ⟨t, cs, hb⟩ := h; exact hb.lt
theorem FreeB.only {W W2 : World} {g R : Nat} (h : FreeB W g) (ho : Only R W W2) (hne : g ≠ R) : FreeB W2 g := by obtain ⟨t, cs, hb⟩ := h; exact ⟨t, cs, ho.blk hb hne⟩
theorem FreeB.below {W W2 : World} {g : Nat} (h : FreeB W g) (hb : Below W.heap.size W W2) : FreeB W2 g := by obtain ⟨t, cs, h1⟩ := h; exact ⟨t, cs, h1.below hb h1.lt⟩

attribute [local go_sem] Oper.semAt_some

/-- an append, kept whole -/
noncomputable def AppOp (ty : TypeId) (args : Array Value) : Sem Value := Builtin.append_ #[25, 25] ty args
theorem appOp_eq (ty : TypeId) (args : Array Value) : Builtin.append_ #[25, 25] ty args = AppOp ty args := rfl
attribute [local go_sem ↓] appOp_eq
def chunkL (b : List UInt8) (wd k : Nat) : List UInt8 := (b.drop (k * wd)).take wd
def lessZ (b : List UInt8) (wd k : Nat) : Int := (numZ (chunkL b wd k) : Int) - 1
/-- numbers of so many bytes each, each of them less one -/
def lessP (wd : Nat) (b : List UInt8) : List Int := (List.range (b.length / wd)).map (lessZ b wd)
theorem finUp_map {β : Type} (q : Nat) (f : Nat → β) : ∀ k h, (finUp q k h).map (fun x => f x.val) = (List.range k).map f
  | 0, _ => rfl
  | k + 1, h => by rw [finUp, List.map_append, finUp_map q f k, List.range_succ, List.map_append]; rfl
theorem info3 : (Try.prog.info? 3).map (fun i => (i.zero, i.size, i.bytes)) = some (some (.int .i64 0), 1, 8) := by kernel_rfl
set_option maxRecDepth 100000 in
set_option maxHeartbeats 4000000 in
theorem lessOne_any (w : World) (R : Nat) (l : List UInt8) (a : Option Addr) (c : Nat) (s : Rs) (many wd : Nat) (hw : 1 ≤ wd) (hw2 : wd ≤ 2) (hm : many ≤ 50000000) (h : RdIn w R l a c s) :
    Calls Try.prog 41 #[.pointer (some ⟨R, 0, none⟩), .int .i64 (many : Int), .int .i64 (wd : Int)] w fun e w' => ∃ a' c', e = .returned (.slice a' (lessP wd (someP l s (many * wd)).1).length c') ∧ Only R w w' ∧ RdIn w' R l a c (someP l s (many * wd)).2 ∧ IntsAt w' a' (lessP wd (someP l s (many * wd)).1) ∧ (∀ x, a' = some x → w.heap.size ≤ x.block ∧ FreeB w' x.block) := by
  obtain ⟨i0, hi0, hz0, hz1, hz2⟩ := info_parts info3
  obtain ⟨p, hp⟩ : ∃ p, many * wd = p := ⟨_, rfl⟩
  have hmul : (many : Int) * (wd : Int) = (p : Int) := by rw [← hp, Int.natCast_mul]
  have hpb : p ≤ 100000000 := by rw [← hp]; exact Nat.le_trans (Nat.mul_le_mul hm hw2) (by decide)
  rw [hp]
  have HC := Lib.hid (some_any w R l a c s p (by unfold maxLen; omega) h)
  -- how many there are
  obtain ⟨b, hbe⟩ : ∃ b, (someP l s p).1 = b := ⟨_, rfl⟩
  obtain ⟨s', hse⟩ : ∃ s', (someP l s p).2 = s' := ⟨_, rfl⟩
  obtain ⟨q, hq⟩ : ∃ q, b.length = q * wd := by
    rcases someP_len l s p with hh | hh
    · exact ⟨0, by rw [← hbe, hh]; simp⟩
    · exact ⟨many, by rw [← hbe, hh, hp]⟩
  have hqd : b.length / wd = q := by rw [hq]; exact Nat.mul_div_cancel _ hw
  have hbl : b.length ≤ 100000000 := by
    rcases someP_len l s p with hh | hh <;> rw [← hbe, hh]
    · decide
    · exact hpb
  have hql : q ≤ 100000000 := by rw [← hqd]; exact Nat.le_trans (Nat.div_le_self _ _) hbl
  have HQD := Lib.hid hqd
  have HLP : Hid ((lessP wd b).length = q) := by show _ = _; unfold lessP; rw [List.length_map, List.length_range, hqd]
  have HC2 : Hid (Calls Try.prog 38 #[.pointer (some ⟨R, 0, none⟩), .int .i64 (p : Int)] w fun e w' => ∃ a' c', e = .returned (.slice a' b.length c') ∧ Only R w w' ∧ RdIn w' R l a c s' ∧ BytesAt w' a' b ∧ b.length ≤ c' ∧ c' ≤ maxLen) :=
    HC.out.mono fun e w' ⟨a', c', he, hs⟩ => ⟨a', c', by rw [← hbe]; exact he, hs.only, by rw [← hse]; exact hs.rd, by rw [← hbe]; exact hs.bytes, by rw [← hbe]; exact hs.capl, hs.capm⟩
  have hdiv : ((b.length : Int) / (wd : Int)) = (q : Int) := by rw [← hqd]; exact (Int.natCast_ediv _ _).symm
  have HP := Lib.hid hp
  have HQ := Lib.hid hq
  rw [hbe, hse]
  have hd : ∀ W : World, True := fun _ => trivial
  have hmk : ∀ W : World, (Instr.makeSlice 25 (.int .i64 0) (.int .i64 (q : Int))).run Try.prog W = .ok (.slice (some ⟨W.heap.size, 0, none⟩) 0 q) (W.alloc (.cells (madeCells (Value.int .i64 0).cells q) 3)) := fun W => by
    have := run_make (P := Try.prog) W 25 3 i0 (.int .i64 0) Try.underlying25 hi0 hz0 .i64 .i64 0 (q : Int) (Int.le_refl _) (by omega) (by rw [hz2]; omega) (by omega)
    rw [Int.toNat_natCast, hz1, Nat.mul_one] at this
    exact this
  clear hd h hp hq hqd hbe hse HC
  have hw1 : (1 : Int) ≤ (wd : Int) := by omega
  refine (callsIn_wide (n := 6)).1 ?_
  refine callsIn_of_wp_marks Try.func41 rfl trivial ?_ rfl
  simp only [Try.ntmps41, List.size_toArray, List.length_cons, List.length_nil, Nat.reduceAdd, Nat.reduceSub, Array.replicate_succ, Array.replicate_zero, List.push_toArray, List.append_toArray, List.nil_append, List.cons_append]
  gi_wp2_with (first
    | (refine ⟨trivial, ?_⟩; gi_at_call 38; refine (callsIn_wide.2 HC2.out).mono ?_; rintro e w2 ⟨a2, c2, rfl, ho2, hr2, hb2, hcl2, hcm2⟩; have HO2 := Lib.hid ho2; have HR2 := Lib.hid hr2; have HB2 := Lib.hid hb2; clear ho2 hr2 hb2)
    | (refine ⟨trivial, ?_⟩; gi_at_call 47; refine (callsIn_wide.2 (chunk_any a2 b.length c2 wd hw _)).mono ?_; rintro e w3 ⟨rfl, rfl⟩))
  obtain ⟨cs0, hcs0⟩ : ∃ cs0, madeCells #[Value.int .i64 0] q = cs0 := ⟨_, rfl⟩
  have hcsz : cs0.size = q := by rw [← hcs0]; exact size_madeCells _ _
  rw [hcs0]
  generalize hW0 : (((w2.alloc (.cells cs0 3)).alloc (.cells #[.slice (some ⟨w2.heap.size, 0, none⟩) 0 q] 25)).alloc (.cells #[.slice a2 b.length c2] 31)).alloc (.cells #[.int .i64 (wd : Int)] 3) = W0 at *
  have hsz : W0.heap.size = w2.heap.size + 4 := by rw [← hW0]; simp
  have HW1 : Hid (Below w2.heap.size w2 W0) := by
    rw [← hW0]
    exact ((((Below.refl _ _).alloc (Nat.le_refl _) _).alloc (by simp) _).alloc (by simp; omega) _).alloc (by simp; omega) _
  have hbx : Boxed W0 (w2.heap.size + 1) 25 (.slice (some ⟨w2.heap.size, 0, none⟩) 0 q) := by
    rw [← hW0]
    have := Boxed.new (w2.alloc (.cells cs0 3)) 25 (.slice (some ⟨w2.heap.size, 0, none⟩) 0 q)
    rw [World.size_alloc] at this
    exact (this.alloc _).alloc _
  have hbs : Boxed W0 (w2.heap.size + 1 + 1) 31 (.slice a2 b.length c2) := by
    rw [← hW0]
    have := Boxed.new ((w2.alloc (.cells cs0 3)).alloc (.cells #[.slice (some ⟨w2.heap.size, 0, none⟩) 0 q] 25)) 31 (.slice a2 b.length c2)
    rw [World.size_alloc, World.size_alloc] at this
    exact this.alloc _
  have hbn : Boxed W0 (w2.heap.size + 1 + 1 + 1) 3 (.int .i64 (wd : Int)) := by
    rw [← hW0]
    have := Boxed.new (((w2.alloc (.cells cs0 3)).alloc (.cells #[.slice (some ⟨w2.heap.size, 0, none⟩) 0 q] 25)).alloc (.cells #[.slice a2 b.length c2] 31)) 3 (.int .i64 (wd : Int))
    rw [World.size_alloc, World.size_alloc, World.size_alloc] at this
    exact this
  have hrow : W0.ownsRow w2.heap.size 3 1 (.slice (some ⟨w2.heap.size, 0, none⟩) 0 q) 0 [] := by
    rw [← hW0]
    exact (((World.ownsRow_made w2 cs0 q (Nat.le_refl _) (by unfold maxLen; omega) (by rw [hcsz, Nat.mul_one])).alloc _).alloc _).alloc _
  have hbytes : BytesAt W0 a2 b := RowAt.under HB2.out HW1.out (Nat.le_refl _)
  have HSZ := Lib.hid hsz
  have HBS := Lib.hid hbs
  have HBN := Lib.hid hbn
  have HBX := Lib.hid hbx
  have HROW := Lib.hid hrow
  have HBY := Lib.hid hbytes
  have hbl2 := HB2.out.len
  clear hW0 hsz hbs hbn hbx hrow hbytes hcs0 hcsz hmk hdiv hmul HC2
  generalize hBe : w2.heap.size = B at *
  -- the chunks
  have hg : ∃ g off, 0 < q → a2 = some ⟨g, off, none⟩ := by
    by_cases h0 : 0 < q
    · obtain ⟨g, off, h1, _⟩ := RowAt.row HB2.out (by rw [List.length_map, HQ.out]; exact Nat.mul_pos h0 hw)
      exact ⟨g, off, fun _ => h1⟩
    · exact ⟨0, 0, fun h => absurd h h0⟩
  obtain ⟨g, off, hga⟩ := hg
  have hst := chunk_stops 5 (by omega) (B + 1 + 1) (B + 1 + 1 + 1) g off c2 wd q a2 hga hw hw2 hql (by rw [← HQ.out]; exact hcl2) hcm2 W0 (by rw [HSZ.out]; omega) (by rw [HSZ.out]; omega) (by rw [← HQ.out]; exact HBS.out.cell) HBN.out.cell
  refine wpIn_rangeFunc_ownG rfl (by omega) (gf := 48) (lb := #[.pointer (some ⟨B + 1 + 1, 0, none⟩), .pointer (some ⟨B + 1 + 1 + 1, 0, none⟩)]) rfl trivial (enters_of Try.func48 (by kernel_rfl) rfl)
    hst (fun h k => KeepP.trans h k) (KeepP.put (by rw [HSZ.out]; omega) (by rw [HSZ.out]; omega)) (Below.refl _ _) (fun _ => rfl)
    (fun (pre : List (Fin q)) (W : World) => (∃ v, Boxed W (B + 1) 25 v ∧ W.ownsRow B 3 1 v pre.length (pre.map fun x => intV (lessZ b wd x.val)) ∧ (∃ g, v.ownBlock = some g ∧ (g = B ∨ W0.heap.size ≤ g))) ∧ Below B W0 W)
    (fun _ _ _ => False)
    (OwnFrom.and (Own.from (holdsRow_own B (B + 1) 25 3 1 (fun pre : List (Fin q) => pre.length) (fun pre : List (Fin q) => pre.map fun x => intV (lessZ b wd x.val)) (fun _ v => ∃ g, v.ownBlock = some g ∧ (g = B ∨ W0.heap.size ≤ g))) _) (ownFrom_below (by rw [HSZ.out]; omega) (by rw [HSZ.out]; omega)))
    (fun _ _ _ _ _ hs _ _ => hs)
    ⟨⟨_, HBX.out, HROW.out, _, rfl, .inl rfl⟩, Below.refl _ _⟩
    (fun x => { tmps := #[.pointer (some ⟨R, 0, none⟩), .int .i64 many, .int .i64 wd, undef, undef, undef, .slice none 0 0, .slice a2 b.length c2, .pointer (some ⟨B + 1, 0, none⟩), chunkV g off wd x.val, .pointer (some ⟨R, 0, none⟩), .int .i64 many, .int .i64 wd, .int .i64 p, .slice a2 b.length c2, .slice a2 b.length c2, .int .i64 b.length, .int .i64 wd, .int .i64 q, .slice (some ⟨B, 0, none⟩) 0 q, .slice a2 b.length c2, .int .i64 wd, .func (.func 48) #[] #[.pointer (some ⟨B + 1 + 1, 0, none⟩), .pointer (some ⟨B + 1 + 1 + 1, 0, none⟩)], chunkV g off wd x.val, undef, undef, undef, undef, undef, undef, undef], defers := [] }) ?assign ?body ?done ?stop
  case assign =>
    intro l x W K hK
    gi_wp2
    exact hK
  case body =>
    rintro l2 pre x W ⟨⟨v, hv, hown, gv, hgv, hgw⟩, hlow⟩ hlt
    have hxq := x.isLt
    obtain rfl := hga (by omega)
    have hcb : BytesAt W (some ⟨g, off + x.val * wd, none⟩) (chunkL b wd x.val) := by
      have h1 : BytesAt W (some ⟨g, off, none⟩) b := RowAt.under HB2.out (HW1.out.trans hlow) (by rw [hBe]; exact Nat.le_refl _)
      have h2 : (chunkL b wd x.val).length = wd := by
        unfold chunkL
        rw [List.length_take, List.length_drop, HQ.out]
        have h3 : (x.val + 1) * wd ≤ q * wd := Nat.mul_le_mul_right _ hxq
        rw [Nat.succ_mul] at h3
        omega
      refine ⟨by rw [List.length_map, h2]; unfold maxLen; omega, fun h0 => ?_⟩
      have h4 : x.val * wd + wd ≤ b.length := by
        have h3 : (x.val + 1) * wd ≤ q * wd := Nat.mul_le_mul_right _ hxq
        rw [Nat.succ_mul] at h3
        rw [HQ.out]
        exact h3
      obtain ⟨g', off', he, hgl, hc⟩ := RowAt.row h1 (by rw [List.length_map]; omega)
      injection he with he
      injection he with he1 he2
      subst he1 he2
      refine ⟨g, off + x.val * wd, rfl, hgl, fun j hj => ?_⟩
      rw [List.length_map, h2] at hj
      have := hc (x.val * wd + j) (by rw [List.length_map]; omega)
      rw [Nat.add_assoc, this, List.getElem_map, List.getElem_map]
      unfold chunkL
      rw [List.getElem_take, List.getElem_drop]
    have hcl : (chunkL b wd x.val).length = wd := by
      unfold chunkL
      rw [List.length_take, List.length_drop, HQ.out]
      have h3 : (x.val + 1) * wd ≤ q * wd := Nat.mul_le_mul_right _ hxq
      rw [Nat.succ_mul] at h3
      omega
    have hnum : ∀ W', BytesAt W' (some ⟨g, off + x.val * wd, none⟩) (chunkL b wd x.val) → Calls Try.prog 46 #[chunkV g off wd x.val] W' fun e w' => e = .returned (.int .i64 (numZ (chunkL b wd x.val) : Int)) ∧ W' = w' := fun W' hb' => by
      have := numberOf_any _ _ wd W' hb' (by rw [hcl]; exact hw2)
      rw [hcl] at this
      exact this
    have hnb := numZ_lt (chunkL b wd x.val)
    rw [hcl] at hnb
    have hnb2 : numZ (chunkL b wd x.val) < 65536 := Nat.lt_of_lt_of_le hnb (Nat.le_trans (Nat.pow_le_pow_right (by decide) hw2) (by decide))
    have HZ : Hid (lessZ b wd x.val = (numZ (chunkL b wd x.val) : Int) - 1) := show _ = _ from rfl
    have HNUM := Lib.hid (hnum _ (show BytesAt W.drew _ _ from RowAt.below hcb (Below.refl _ _).drew))
    generalize numZ (chunkL b wd x.val) = N at *
    have hl1 := hlow.size
    have hWB : B + 4 ≤ W.heap.size := by have := HSZ.out; omega
    have hpl : pre.length ≤ 100000000 := by omega
    have hvd : Boxed W.drew (B + 1) 25 v := hv
    obtain ⟨v', w1, hr, hown', hgrow, _, hat⟩ := run_append_own_at (P := Try.prog) (W.drew.alloc (.cells #[.int .i64 ((N : Int) - 1)] 3)) B 25 25 3 i0 (.int .i64 0) 1 8 Try.underlying25 hi0 hz0 hz1 hz2 rfl (by decide) v pre.length _ (hown.drew.alloc _) ⟨W.drew.heap.size, 0, none⟩ 1 1 [.int .i64 ((N : Int) - 1)] rfl (cell_one_new W.drew _ _) (by intro u hu; simp at hu; subst hu; rfl) (by unfold maxLen; omega) (by omega) (by rw [World.size_alloc]; show B ≤ W.heap.size + 1; omega)
    rw [appOp_eq] at hr
    obtain ⟨g', cap', rfl⟩ := ownsRow_succ hown'
    obtain ⟨hv1, hv2, hr2, hk2, hb2⟩ := hvd.appended (by decide) hown.drew (show B ≤ W.heap.size by omega) (by omega) hown' hgrow
    have hrr : (AppOp 25 #[v, .slice (some ⟨W.heap.size, 0, none⟩) 1 1]).run Try.prog (W.alloc (.cells #[.int .i64 ((N : Int) - 1)] 3)).drew = .ok (.slice (some ⟨g', 0, none⟩) (pre.length + 1) cap') w1 := hr
    have hwrap : IntKind.i64.wrap ((N : Int) - 1) = (N : Int) - 1 := IntWalk.i64_in _ (by omega)
    clear hr
    have hc0 := hvd.cell
    have hc0b : (W.alloc (.cells #[.int .i64 ((N : Int) - 1)] 3)).drew.cell? ⟨B + 1, 0, none⟩ = some v := (World.cell?_alloc_lt W _ ⟨B + 1, 0, none⟩ (by show B + 1 < W.heap.size; omega)).trans hc0
    have hc0c : W.cell? ⟨B + 1, 0, none⟩ = some v := hc0
    have hc1 := hv1.cell
    have hf1 := hv1.frozen
    have HFIN : Hid (KeepsFrom W0.heap.size W (w1.setCell ⟨B + 1, 0, none⟩ (.slice (some ⟨g', 0, none⟩) (pre.length + 1) cap')) ∧ KeepP (B + 1 + 1) (B + 1 + 1 + 1) W (w1.setCell ⟨B + 1, 0, none⟩ (.slice (some ⟨g', 0, none⟩) (pre.length + 1) cap')) ∧
        ((∃ v, Boxed (w1.setCell ⟨B + 1, 0, none⟩ (.slice (some ⟨g', 0, none⟩) (pre.length + 1) cap')) (B + 1) 25 v ∧ (w1.setCell ⟨B + 1, 0, none⟩ (.slice (some ⟨g', 0, none⟩) (pre.length + 1) cap')).ownsRow B 3 1 v (pre ++ [x]).length ((pre ++ [x]).map fun x => intV (lessZ b wd x.val)) ∧ (∃ g, v.ownBlock = some g ∧ (g = B ∨ W0.heap.size ≤ g))) ∧ Below B W0 (w1.setCell ⟨B + 1, 0, none⟩ (.slice (some ⟨g', 0, none⟩) (pre.length + 1) cap')))) := by
      have hs0 := HSZ.out
      have hne : ∀ j, j = B + 1 + 1 ∨ j = B + 1 + 1 + 1 → some j ≠ v.ownBlock := fun j hj e => by
        rw [hgv] at e
        injection e with e
        omega
      refine ⟨((KeepsOthers.drew W).trans hk2).from _, ?_, ⟨_, hv2, ?_, ?_⟩, (hlow.drew).trans hb2⟩
      · have k1 : KeepP (B + 1 + 1) (B + 1 + 1 + 1) W (W.drew.alloc (.cells #[.int .i64 ((N : Int) - 1)] 3)) := KeepP.trans (B := W.drew) ⟨rfl, rfl⟩ (KeepP.grown (row := none) (World.grownBy_alloc W.drew _ none) (by show B + 1 + 1 < W.heap.size; omega) (by show B + 1 + 1 + 1 < W.heap.size; omega) (by simp) (by simp))
        have k2 := KeepP.grown hgrow (by rw [World.size_alloc]; show B + 1 + 1 < W.heap.size + 1; omega) (by rw [World.size_alloc]; show B + 1 + 1 + 1 < W.heap.size + 1; omega) (hne _ (.inl rfl)) (hne _ (.inr rfl))
        have hw1s := hgrow.size
        rw [World.size_alloc] at hw1s
        have hw2s : W.heap.size + 1 ≤ w1.heap.size := hw1s
        have k3 := KeepP.grown (grownBy_setCell' w1 (B + 1) (.slice (some ⟨g', 0, none⟩) (pre.length + 1) cap')) (Bs := B + 1 + 1) (Bn := B + 1 + 1 + 1) (by omega) (by omega) (fun e => by injection e with e; omega) (fun e => by injection e with e; omega)
        exact (k1.trans k2).trans k3
      · rw [List.length_append, List.length_singleton, List.map_append, List.map_singleton]
        rw [show intV (lessZ b wd x.val) = .int .i64 ((N : Int) - 1) from by rw [HZ.out]; rfl]
        exact hr2
      · refine ⟨g', rfl, ?_⟩
        rcases hat with hh | hh
        · rw [hgv] at hh
          injection hh with hh
          have : g' = gv := hh
          omega
        · injection hh with hh
          rw [World.size_alloc] at hh
          have : g' = W.heap.size + 0 ∨ g' = W.heap.size + 1 := .inr hh
          omega
    clear hnum hcb hcl hnb hown hown' hgrow hat hr2 hk2 hb2 hv1 hv2 hv hvd hlow hgw hgv
    have hd : 1 ≤ 6 - 1 - 1 := by omega
    have hmx : Try.prog.follows .mixedOrders = true := by kernel_rfl
    have hN0 : (0 : Int) ≤ N := by omega
    gi_wp2
    gi_region_with_o (first | (gi_at_call 46; refine (CallsIn.inRound l2 (callsIn_wide.2 HNUM.out)).mono ?_; rintro e w' ⟨rfl, rfl⟩) | (refine ⟨trivial, ?_⟩; gi_at_call 46; refine (CallsIn.inRound l2 (callsIn_wide.2 HNUM.out)).mono ?_; rintro e w' ⟨rfl, rfl⟩))
    all_goals exact HFIN.out
  case done =>
    rintro D ys W hD rfl ⟨⟨v, hv, hown, gv, hgv, hgw⟩, hlow⟩ hK
    have hc := hv.cell
    have HFIN : Hid (∃ a' c', Ending.returned v = .returned (.slice a' (lessP wd b).length c') ∧ Only R w (W.putObj D (.deferred none)) ∧ RdIn (W.putObj D (.deferred none)) R l a c s' ∧ IntsAt (W.putObj D (.deferred none)) a' (lessP wd b) ∧ (∀ x, a' = some x → w.heap.size ≤ x.block ∧ FreeB (W.putObj D (.deferred none)) x.block)) := by
      have hs0 := HSZ.out
      have hbel : Below B W (W.putObj D (.deferred none)) := belowK_b (w := W0) (by omega) W D _ _ hD hK rfl rfl
      have hb3 : Below w2.heap.size w2 (W.putObj D (.deferred none)) := by rw [hBe]; exact (HW1.out.trans hlow).trans hbel
      have hrow := ownsRow_putObj hown (.deferred none) hK rfl
      rw [finUp_len, show (List.map (fun x : Fin q => intV (lessZ b wd x.val)) (finUp q q (Nat.le_refl _))) = (List.range q).map (fun k => intV (lessZ b wd k)) from finUp_map q (fun k => intV (lessZ b wd k)) q _] at hrow
      rcases hrow.2 with ⟨hn, _⟩ | ⟨g2, cap2, cur, hv2, _, hheap, hcap, hcapm, _⟩
      · rw [hn] at hgv; cases hgv
      · refine ⟨some ⟨g2, 0, none⟩, cap2, by rw [hv2, HLP.out], HO2.out.trans (Only.of_below hb3), HR2.out.later hb3, ?_, fun x hx => by
          injection hx with hx
          rw [← hx]
          have h5 := (hrow.lt g2 (by rw [hv2]; rfl)).1
          have h6 := HO2.out.size
          refine ⟨?_, _, _, hheap⟩
          show w.heap.size ≤ g2
          omega⟩
        refine ⟨by rw [List.length_map, HLP.out]; exact Nat.le_trans hcap hcapm, fun h0 => ⟨g2, 0, rfl, (hrow.lt g2 (by rw [hv2]; rfl)).2, fun j hj => ?_⟩⟩
        rw [List.length_map, HLP.out] at hj
        rw [hv2] at hrow
        have hcl := hrow.cells (g := g2) rfl j
        rw [Addr.add_mid] at hcl
        refine hcl _ ?_
        rw [← List.getElem?_eq_getElem]
        congr 1
        unfold lessP
        rw [List.map_map, HQD.out]
        rfl
    gi_wp2
    refine ⟨by simp, .inl ⟨_, _, rfl, run_takeDeferred hK, ?_⟩⟩
    obtain ⟨a', c', h1, h2⟩ := HFIN.out
    refine ⟨_, results_tmp rfl _ _ _, ?_⟩
    exact ⟨a', c', h1, h2⟩
  case stop =>
    rintro D c pre W _ _ h _
    exact h.elim
end Go.Proofs.Ytkgfjapflpjdbaa
