/-
  The contract of table.reader.table. Conditions: the reader lies in memory.
-/
import Derived.Test.YtkgfjapflpjdbaaTbT
import Derived.Outline
namespace Go.Proofs.Ytkgfjapflpjdbaa
open Go.RowKit Go.Shelf

attribute [local go_sem ↓] loadOp_C loadOp_T allocOp_T storeOp_T
noncomputable def CopyOp (ty : TypeId) (args : Array Value) : Sem Value := Builtin.copy_ #[31, 31] ty args
theorem copyOp_eq (ty : TypeId) (args : Array Value) : Builtin.copy_ #[31, 31] ty args = CopyOp ty args := rfl
attribute [local go_sem ↓] copyOp_eq
def ofP (o : List UInt8) : List UInt8 := if o.length = 256 then o else List.replicate 256 0
theorem TbW.copyIn {w W : World} {R B : Nat} {l : List UInt8} {a : Option Addr} {c : Nat} {s : Rs} {t : Tab} {p : Lie} (h : TbW w W R B l a c s t p) (ht : t.of = List.replicate 256 0) (ty : TypeId) (o : List UInt8) (a' : Option Addr) (c' : Nat) (ho : o.length = 256 ∨ o = []) (hb : BytesAt W a' o) :
    ∃ v W2, (CopyOp ty #[.slice (some ⟨B + 1, 0, none⟩) 256 256, .slice a' o.length c']).run Try.prog W = .ok v W2 ∧ TbW w W2 R B l a c s { t with of := ofP o } p := by
  have h8 : (Try.prog.info? 5).map (·.size) = some 1 := by kernel_rfl
  rcases ho with ho | rfl
  · obtain ⟨g, off, rfl, hg, hc⟩ := RowAt.row hb (by simp; omega)
    have := run_copy_row Try.prog W 31 31 ty 5 (B + 1) 0 256 256 ⟨g, off, none⟩ o.length c' (tabCells t p).toArray 30 (o.map byteV) Try.underlying31 h8 h.var (by rw [List.length_map, ho]; rfl)
      (fun j v hv => by
        obtain ⟨hj, rfl⟩ := List.getElem?_eq_some_iff.1 hv
        rw [Addr.add_mid]
        exact hc j hj) (by rw [List.length_map, ho, List.size_toArray, tab_len t p h.tab.of]; decide) (fun v hv => by
        obtain ⟨b, _, rfl⟩ := List.mem_map.1 hv
        rfl)
    refine ⟨_, _, this, ?_⟩
    have h2 := h.setOf o ho
    have e : ofP o = o := if_pos ho
    rw [e]
    exact h2
  · have := run_copy_none (P := Try.prog) W 31 31 ty 5 (some ⟨B + 1, 0, none⟩) a' 256 256 0 c' Try.underlying31 h8 rfl
    refine ⟨_, _, this, ?_⟩
    have e : ({ t with of := ofP [] } : Tab) = t := by
      cases t
      simp only at ht
      subst ht
      rfl
    rw [e]
    exact h
theorem TbW.drew {w W : World} {R B : Nat} {l : List UInt8} {a : Option Addr} {c : Nat} {s : Rs} {t : Tab} {p : Lie} (h : TbW w W R B l a c s t p) : TbW w W.drew R B l a c s t p := h.call (Only.refl R W).drew (h.rd.later (Below.refl _ _).drew)
theorem namesR_each (l : List UInt8) (s : Rs) : ∀ k, ∀ x ∈ (namesR l k s).1, x.length ≤ 255
  | 0, x, hx => by cases hx
  | k + 1, x, hx => by
    rcases List.mem_append.1 hx with hx | hx
    · exact namesR_each l s k x hx
    · rw [List.mem_singleton.1 hx]
      have := numP_lt l (namesR l k s).2 1
      rcases someP_len l (numP l (namesR l k s).2 1).2 (numP l (namesR l k s).2 1).1 with h | h <;> rw [h]
      · decide
      · omega
def ftB : ByteArray := { data := #[70, 84, 1] }
set_option maxRecDepth 100000 in
set_option maxHeartbeats 4000000 in
theorem table_yes (w : World) (R : Nat) (l : List UInt8) (a : Option Addr) (c : Nat) (s0 s1 s2 s3 s4 s5 s6 s7 s8 : Rs) (m q k p : Nat) (ns : List (List UInt8)) (o g x : List UInt8)
    (h0 : someP l s0 3 = ([70, 84, 1], s1)) (h1 : numP l s1 1 = (m, s2)) (h2 : numP l s2 2 = (q, s3)) (h3 : numP l s3 1 = (k, s4)) (h4 : namesR l k s4 = (ns, s5)) (h5 : someP l s5 256 = (o, s6)) (h6 : someP l s6 (q * 1) = (g, s7)) (hp : q * (m + 1) = p) (h7 : someP l s7 (p * 2) = (x, s8)) (h : RdIn w R l a c s0) :
    Calls Try.prog 28 #[.pointer (some ⟨R, 0, none⟩)] w fun e w' => ∃ lie, e = .returned (.agg (tabCells ⟨ofP o, (m : Int) + 1, (m : Int) + 1, lessP 2 x, lessP 1 g, ns⟩ lie).toArray) ∧ Only R w w' ∧ RdIn w' R l a c s8 ∧ TabAt w' ⟨ofP o, (m : Int) + 1, (m : Int) + 1, lessP 2 x, lessP 1 g, ns⟩ lie ∧ LieFrom w.heap.size lie ∧ (∀ y, lie.at_ = some y → FreeB w' y.block) := by
  have hm : m < 256 := by have := numP_lt l s1 1; rw [h1] at this; exact this
  have hq : q < 65536 := by have := numP_lt l s2 2; rw [h2] at this; exact this
  have hk : k < 256 := by have := numP_lt l s3 1; rw [h3] at this; exact this
  have hpb : p ≤ 50000000 := by rw [← hp]; exact Nat.le_trans (Nat.mul_le_mul (Nat.le_of_lt hq) (show m + 1 ≤ 256 by omega)) (by decide)
  have hmul : (q : Int) * ((m : Int) + 1) = (p : Int) := by rw [← hp, Int.natCast_mul]; rfl
  have hnl : ns.length = k := by have := namesR_len l s4 k; rw [h4] at this; exact this
  have hne : ∀ s ∈ ns, s.length ≤ maxLen := fun s hs => by have := namesR_each l s4 k s (by rw [h4]; exact hs); unfold maxLen; omega
  have hol : o.length = 256 ∨ o = [] := by
    rcases someP_len l s5 256 with hh | hh
    · rw [h5] at hh; exact .inr hh
    · rw [h5] at hh; exact .inl hh
  have C0 : Hid (∀ W, RdIn W R l a c s0 → Calls Try.prog 38 #[.pointer (some ⟨R, 0, none⟩), .int .i64 3] W fun e w' => ∃ a' c', e = .returned (.slice a' 3 c') ∧ Only R W w' ∧ RdIn w' R l a c s1 ∧ (convert 31 9 (.slice a' 3 c')).run Try.prog w' = .ok (.string { data := #[70, 84, 1] }) w') := fun W hW =>
    (some_any W R l a c s0 3 (by decide) hW).mono fun e w' ⟨a', c', he, hs⟩ => by
      have hb := hs.bytes
      have hr := hs.rd
      rw [h0] at hb he hr
      exact ⟨a', c', he, hs.only, hr, conv_any w' a' [70, 84, 1] c' hb⟩
  have C1 : Hid (∀ W, RdIn W R l a c s1 → Calls Try.prog 39 #[.pointer (some ⟨R, 0, none⟩), .int .i64 1] W fun e w' => e = .returned (.int .i64 (m : Int)) ∧ Only R W w' ∧ RdIn w' R l a c s2) := fun W hW => by
    have := number_any W R l a c s1 1 (by decide) hW
    rw [h1] at this
    exact this
  have C2 : Hid (∀ W, RdIn W R l a c s2 → Calls Try.prog 39 #[.pointer (some ⟨R, 0, none⟩), .int .i64 2] W fun e w' => e = .returned (.int .i64 (q : Int)) ∧ Only R W w' ∧ RdIn w' R l a c s3) := fun W hW => by
    have := number_any W R l a c s2 2 (by decide) hW
    rw [h2] at this
    exact this
  have C3 : Hid (∀ W, RdIn W R l a c s3 → Calls Try.prog 39 #[.pointer (some ⟨R, 0, none⟩), .int .i64 1] W fun e w' => e = .returned (.int .i64 (k : Int)) ∧ Only R W w' ∧ RdIn w' R l a c s4) := fun W hW => by
    have := number_any W R l a c s3 1 (by decide) hW
    rw [h3] at this
    exact this
  have C4 : Hid (∀ W, RdIn W R l a c s4 → Calls Try.prog 40 #[.pointer (some ⟨R, 0, none⟩), .int .i64 (k : Int)] W fun e w' => ∃ a', e = .returned (.slice a' k k) ∧ Only R W w' ∧ RdIn w' R l a c s5 ∧ TextsAt w' a' ns ∧ (∀ x, a' = some x → W.heap.size ≤ x.block)) := fun W hW => by
    have := names_any W R l a c s4 k (by omega) hW
    rw [h4] at this
    exact this
  have C5 : Hid (∀ W, RdIn W R l a c s5 → Calls Try.prog 38 #[.pointer (some ⟨R, 0, none⟩), .int .i64 256] W fun e w' => ∃ a' c', e = .returned (.slice a' o.length c') ∧ Only R W w' ∧ RdIn w' R l a c s6 ∧ BytesAt w' a' o) := fun W hW =>
    (some_any W R l a c s5 256 (by decide) hW).mono fun e w' ⟨a', c', he, hs⟩ => by
      have hb := hs.bytes
      have hr := hs.rd
      rw [h5] at hb he hr
      exact ⟨a', c', he, hs.only, hr, hb⟩
  have C6 : Hid (∀ W, RdIn W R l a c s6 → Calls Try.prog 41 #[.pointer (some ⟨R, 0, none⟩), .int .i64 (q : Int), .int .i64 1] W fun e w' => ∃ a' c', e = .returned (.slice a' (lessP 1 g).length c') ∧ Only R W w' ∧ RdIn w' R l a c s7 ∧ IntsAt w' a' (lessP 1 g) ∧ (∀ x, a' = some x → W.heap.size ≤ x.block ∧ FreeB w' x.block)) := fun W hW => by
    have := lessOne_any W R l a c s6 q 1 (by decide) (by decide) (by omega) hW
    rw [h6] at this
    exact this
  have C7 : Hid (∀ W, RdIn W R l a c s7 → Calls Try.prog 41 #[.pointer (some ⟨R, 0, none⟩), .int .i64 (p : Int), .int .i64 2] W fun e w' => ∃ a' c', e = .returned (.slice a' (lessP 2 x).length c') ∧ Only R W w' ∧ RdIn w' R l a c s8 ∧ IntsAt w' a' (lessP 2 x) ∧ (∀ x, a' = some x → W.heap.size ≤ x.block ∧ FreeB w' x.block)) := fun W hW => by
    have := lessOne_any W R l a c s7 p 2 (by decide) (by decide) hpb hW
    rw [h7] at this
    exact this
  clear h0 h1 h2 h3 h4 h5 h6 h7 hp
  have HNE := Lib.hid hne
  have HNL := Lib.hid hnl
  have HOL := Lib.hid hol
  clear hne hnl hol
  have HT0 := Lib.hid (TbW.start h)
  have HRUN0 := alloc_run
  clear h
  obtain ⟨Z, hZ⟩ : ∃ Z, (tabCells zeroTab zeroLie).toArray = Z := ⟨_, rfl⟩
  obtain ⟨lx, hlx⟩ : ∃ lx, lessP 2 x = lx := ⟨_, rfl⟩
  obtain ⟨lg, hlg⟩ : ∃ lg, lessP 1 g = lg := ⟨_, rfl⟩
  rw [hlx] at C7 ⊢
  rw [hlg] at C6 ⊢
  rw [hZ] at HT0 HRUN0
  have HZ := Lib.hid hZ
  clear hZ hlx hlg
  obtain ⟨T0, hT0⟩ : ∃ T0, zeroTab = T0 := ⟨_, rfl⟩
  obtain ⟨L0, hL0⟩ : ∃ L0, zeroLie = L0 := ⟨_, rfl⟩
  have HTZ := Lib.hid hT0
  have HLZ := Lib.hid hL0
  rw [hT0, hL0] at HT0
  clear hT0 hL0
  go_enter Try.func28, Try.ntmps28
  go_wp2_with (first
    | (go_at_call 38; refine (C0.out _ HT0.out.rd).mono ?_; rintro e w1 ⟨a1, c1, rfl, ho1, hr1, hcv1⟩; have HT1 := Lib.hid (HT0.out.call ho1 hr1); clear ho1 hr1)
    | (go_at_call 39; refine (C1.out _ HT1.out.rd).mono ?_; rintro e w2 ⟨rfl, ho2, hr2⟩; have HT2 := Lib.hid (HT1.out.call ho2 hr2); clear ho2 hr2)
    | (go_at_call 39; refine (C2.out _ HT2.out.rd).mono ?_; rintro e w3 ⟨rfl, ho3, hr3⟩; have HT3 := Lib.hid (HT2.out.call ho3 hr3); clear ho3 hr3)
    | (go_at_call 39; refine (C3.out _ HT3.out.rd).mono ?_; rintro e w4 ⟨rfl, ho4, hr4⟩; have HT4 := Lib.hid (HT3.out.call ho4 hr4); clear ho4 hr4)
    | (go_at_call 40; refine (C4.out _ HT4.out.rd).mono ?_; rintro e w5 ⟨a5, rfl, ho5, hr5, hn5, hf5⟩; have HT5 := Lib.hid (HT4.out.call ho5 hr5); have HT6 := Lib.hid (HT5.out.setNames a5 ns k HNL.out hn5 (fun x hx => by have := hf5 x hx; have := HT4.out.size; omega) HNE.out); have HT7 := Lib.hid (HT6.out.setMany ((m : Int) + 1)); have HT8 := Lib.hid (HT7.out.setDmany ((m : Int) + 1)); have e1 := HT5.out.cells.2.2.2.2; have e2 := HT5.out.frozen 260; have e3 := HT6.out.cells.1; have e4 := HT6.out.frozen 256; have e5 := HT7.out.cells.2.1; have e6 := HT7.out.frozen 257; clear ho5 hr5 hn5 hf5))
  have HT9 := Lib.hid HT8.out.drew
  clear HT0 HT1 HT2 HT3 HT4 HT5 HT6 HT7 e1 e2 e3 e4 e5 e6 hcv1
  have HOF : Hid (T0.of = List.replicate 256 0) := by show _ = _; rw [← HTZ.out]; rfl
  generalize ((w5.setCell ⟨w.heap.size + 1, 260, none⟩ (.slice a5 k k)).setCell ⟨w.heap.size + 1, 256, none⟩ (.int .i64 ((m : Int) + 1))).setCell ⟨w.heap.size + 1, 257, none⟩ (.int .i64 ((m : Int) + 1)) = W8 at *
  refine wp_region_held_drew (S := fun _ => True) (by kernel_rfl) trivial (fun hS => ?_)
  refine take_val (i := 0) rfl (by kernel_rfl) (by kernel_rfl) (by kernel_rfl) (fun _ _ _ h => h) rfl (fun w hSw => by go_simp; try with_reducible rfl) hS ?_; try simp only [Act.put, List.setIfInBounds_toArray, List.set_cons_zero, List.set_cons_succ]
  refine take_val (i := 1) rfl (by kernel_rfl) (by kernel_rfl) (by kernel_rfl) (fun _ _ _ h => h) rfl (fun w hSw => by go_simp; try with_reducible rfl) hS ?_; try simp only [Act.put, List.setIfInBounds_toArray, List.set_cons_zero, List.set_cons_succ]
  refine take_val (i := 2) rfl (by kernel_rfl) (by kernel_rfl) (by kernel_rfl) (fun _ _ _ h => h) rfl (fun w hSw => by go_simp; try with_reducible rfl) hS ?_; try simp only [Act.put, List.setIfInBounds_toArray, List.set_cons_zero, List.set_cons_succ]
  refine take_val (i := 3) rfl (by kernel_rfl) (by kernel_rfl) (by kernel_rfl) (fun _ _ _ h => h) rfl (fun w hSw => by go_simp; try with_reducible rfl) hS ?_; try simp only [Act.put, List.setIfInBounds_toArray, List.set_cons_zero, List.set_cons_succ]
  refine take_call (i := 4) rfl (by kernel_rfl) rfl (fun K hK => ?_)
  go_simp; refine (C5.out _ HT9.out.rd).mono ?_; rintro e w9 ⟨a9, c9, rfl, ho9, hr9, hb9⟩; go_wp2_with fail
  have HT10 := Lib.hid (HT9.out.call ho9 hr9)
  obtain ⟨v9, W10, hcp, ht11⟩ := HT10.out.copyIn HOF.out 3 o a9 c9 HOL.out hb9
  have HT11 := Lib.hid ht11
  clear ho9 hr9 hb9 ht11
  refine hK.out _ _ (trivial) (fun hS => ?_); clear hK K; try simp only [Act.put, List.setIfInBounds_toArray, List.set_cons_zero, List.set_cons_succ]
  refine take_call (i := 5) rfl (by kernel_rfl) rfl (fun K hK => ?_)
  go_simp; go_wp2_with fail
  refine hK.out _ _ (trivial) (fun hS => ?_); clear hK K; try simp only [Act.put, List.setIfInBounds_toArray, List.set_cons_zero, List.set_cons_succ]
  refine wpAnyH_done (by kernel_rfl) ?_ _
  clear hcp HT8 HT9 HT10
  have TOK1 : Hid True := trivial
  go_wp2_with ((clear TOK1); go_at_call 41; refine (C6.out _ HT11.out.rd).mono ?_; rintro e w12 ⟨a12, c12, rfl, ho12, hr12, hn12, hf12⟩; have HT12 := Lib.hid (HT11.out.call ho12 hr12); have HT13 := Lib.hid (HT12.out.setTags a12 c12 lg hn12 (fun x hx => ⟨by have := (hf12 x hx).1; have := HT11.out.size; omega, (hf12 x hx).2⟩)); have e1 := HT12.out.cells.2.2.2.1; have e2 := HT12.out.frozen 259; clear ho12 hr12 hn12 hf12)
  clear e1 e2 HT11 HT12
  generalize w12.setCell ⟨w.heap.size + 1, 259, none⟩ (.slice a12 lg.length c12) = W13 at *
  go_wp2_with (go_at_call 41; refine (C7.out _ HT13.out.rd).mono ?_; rintro e w14 ⟨a14, c14, rfl, ho14, hr14, hn14, hf14⟩; have HT14 := Lib.hid (HT13.out.call ho14 hr14); have HT15 := Lib.hid (HT14.out.setNext a14 c14 lx hn14 (fun x hx => by have := (hf14 x hx).1; have := HT13.out.size; omega)); have e3 := HT14.out.cells.2.2.1; have e4 := HT14.out.frozen 258; have e5 := HT15.out.load; have e6 := store_run _ w.heap.size Z ⟨ofP o, (m : Int) + 1, (m : Int) + 1, lx, lg, ns⟩ { an := a14, cn := c14, at_ := a12, ct := c12, ns := a5, cs := k } (by have := HT15.out.res; rw [HZ.out] at this; exact this) (by rw [← HZ.out, List.size_toArray, tab_len zeroTab zeroLie List.length_replicate]) HT15.out.tab.of; have HO := Lib.hid HT15.out.out; have HFREE := Lib.hid (HT15.out.free (tabCells ⟨ofP o, (m : Int) + 1, (m : Int) + 1, lx, lg, ns⟩ { an := a14, cn := c14, at_ := a12, ct := c12, ns := a5, cs := k }).toArray); clear ho14 hr14 hn14 hf14)
  (try simp only [Exit.inBlock, Exit.then])
  refine bodyPost_ret (results_cell_row rfl _ _ w.heap.size 30 _ (0, 0) _ rfl HO.out.2.2.2 Try.underlying30 rfl (by rw [table_size, List.size_toArray, tab_len _ _ HO.out.2.2.1.of])) rfl ?_
  exact ⟨_, rfl, HO.out.1, HO.out.2.1, HO.out.2.2.1, HT15.out.from_, HFREE.out⟩
end Go.Proofs.Ytkgfjapflpjdbaa
