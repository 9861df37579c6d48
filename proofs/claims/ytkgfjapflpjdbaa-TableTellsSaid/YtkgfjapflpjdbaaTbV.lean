/-
  The contracts of table.reader.table (all arms) and table.Read. Conditions: the bytes lie in memory.
-/
import Derived.Test.YtkgfjapflpjdbaaTbU
namespace Go.Proofs.Ytkgfjapflpjdbaa
open Go.RowKit Go.Shelf

attribute [local go_sem ↓] loadOp_C loadOp_T allocOp_T storeOp_T buildOp_T
set_option maxRecDepth 100000 in
set_option maxHeartbeats 1000000 in
theorem table_no (w : World) (R : Nat) (l : List UInt8) (a : Option Addr) (c : Nat) (s0 s1 : Rs) (b : List UInt8) (h0 : someP l s0 3 = (b, s1)) (hne : b ≠ [70, 84, 1]) (h : RdIn w R l a c s0) :
    Calls Try.prog 28 #[.pointer (some ⟨R, 0, none⟩)] w fun e w' => e = .returned (.agg (tabCells zeroTab zeroLie).toArray) ∧ Only R w w' ∧ RdIn w' R l a c s1 ∧ TabAt w' zeroTab zeroLie := by
  have C0 : Hid (∀ W, RdIn W R l a c s0 → Calls Try.prog 38 #[.pointer (some ⟨R, 0, none⟩), .int .i64 3] W fun e w' => ∃ a' c', e = .returned (.slice a' b.length c') ∧ Only R W w' ∧ RdIn w' R l a c s1 ∧ (convert 31 9 (.slice a' b.length c')).run Try.prog w' = .ok (.string (bs b)) w') := fun W hW =>
    (some_any W R l a c s0 3 (by decide) hW).mono fun e w' ⟨a', c', he, hs⟩ => by
      have hb := hs.bytes
      have hr := hs.rd
      rw [h0] at hb he hr
      exact ⟨a', c', he, hs.only, hr, conv_any w' a' b c' hb⟩
  have hcmp : ((bs b).toList == [70, 84, 1]) = false := by rw [Lib.toList_data]; simpa [bs] using hne
  have HT0 := Lib.hid (TbW.start h)
  have HRUN0 := alloc_run
  have HS : Hid (∀ W, TbW w W R w.heap.size l a c s1 zeroTab zeroLie → (StoreOp 30 (.pointer (some ⟨w.heap.size, 0, none⟩)) (.agg (tabCells zeroTab zeroLie).toArray)).run Try.prog W = .ok () (W.setRow w.heap.size (tabCells zeroTab zeroLie).toArray)) := fun W hW => store_run W _ _ _ _ hW.res (by rw [List.size_toArray, tab_len zeroTab zeroLie List.length_replicate]) List.length_replicate
  have HI : Hid ((Try.prog.info? 30).map (·.size) = some (tabCells zeroTab zeroLie).toArray.size) := by show _ = _; rw [table_size, List.size_toArray, tab_len zeroTab zeroLie List.length_replicate]
  have HOUT : Hid (∀ W, TbW w W R w.heap.size l a c s1 zeroTab zeroLie → Only R w (W.setRow w.heap.size (tabCells zeroTab zeroLie).toArray) ∧ RdIn (W.setRow w.heap.size (tabCells zeroTab zeroLie).toArray) R l a c s1 ∧ TabAt (W.setRow w.heap.size (tabCells zeroTab zeroLie).toArray) zeroTab zeroLie ∧ Blk (W.setRow w.heap.size (tabCells zeroTab zeroLie).toArray) w.heap.size 30 (tabCells zeroTab zeroLie).toArray) := fun W hW => hW.out
  have HLD : Hid (∀ W, TbW w W R w.heap.size l a c s1 zeroTab zeroLie → (LoadOp 30 (.pointer (some ⟨w.heap.size + 1, 0, none⟩))).run Try.prog W = .ok (.agg (tabCells zeroTab zeroLie).toArray) W) := fun W hW => hW.load
  clear h h0
  generalize (tabCells zeroTab zeroLie).toArray = Z at *
  generalize zeroTab = T0 at *
  generalize zeroLie = L0 at *
  go_enter Try.func28, Try.ntmps28
  go_wp2_with (go_at_call 38; refine (C0.out _ HT0.out.rd).mono ?_; rintro e w1 ⟨a1, c1, rfl, ho1, hr1, hcv1⟩; have HT1 := Lib.hid (HT0.out.call ho1 hr1); have e1 := HLD.out _ HT1.out; have e2 := HS.out _ HT1.out; clear ho1 hr1)
  have HO := Lib.hid (HOUT.out _ HT1.out)
  (try simp only [Exit.inBlock, Exit.then])
  refine bodyPost_ret (results_cell_row rfl _ _ w.heap.size 30 _ (0, 0) _ rfl HO.out.2.2.2 Try.underlying30 rfl HI.out) rfl ?_
  exact ⟨rfl, HO.out.1, HO.out.2.1, HO.out.2.2.1⟩
/-- a table, read -/
def tableR (l : List UInt8) (s0 : Rs) : Tab × Rs :=
  if (someP l s0 3).1 = [70, 84, 1] then
    let m := numP l (someP l s0 3).2 1
    let q := numP l m.2 2
    let k := numP l q.2 1
    let n := namesR l k.1 k.2
    let o := someP l n.2 256
    let g := someP l o.2 (q.1 * 1)
    let x := someP l g.2 (q.1 * (m.1 + 1) * 2)
    (⟨ofP o.1, (m.1 : Int) + 1, (m.1 : Int) + 1, lessP 2 x.1, lessP 1 g.1, n.1⟩, x.2)
  else (zeroTab, (someP l s0 3).2)
theorem zero_from (B : Nat) : LieFrom B zeroLie := ⟨fun x hx => (by cases hx), fun x hx => (by cases hx), fun x hx => (by cases hx)⟩
theorem tableR_no (l : List UInt8) (s0 : Rs) (h : (someP l s0 3).1 ≠ [70, 84, 1]) : tableR l s0 = (zeroTab, (someP l s0 3).2) := if_neg h
theorem tableR_yes (l : List UInt8) (s0 s1 s2 s3 s4 s5 s6 s7 s8 : Rs) (m q k p : Nat) (ns : List (List UInt8)) (o g x : List UInt8)
    (h0 : someP l s0 3 = ([70, 84, 1], s1)) (h1 : numP l s1 1 = (m, s2)) (h2 : numP l s2 2 = (q, s3)) (h3 : numP l s3 1 = (k, s4)) (h4 : namesR l k s4 = (ns, s5)) (h5 : someP l s5 256 = (o, s6)) (h6 : someP l s6 (q * 1) = (g, s7)) (hp : q * (m + 1) = p) (h7 : someP l s7 (p * 2) = (x, s8)) :
    tableR l s0 = (⟨ofP o, (m : Int) + 1, (m : Int) + 1, lessP 2 x, lessP 1 g, ns⟩, s8) := by
  unfold tableR
  rw [if_pos (by rw [h0])]
  simp only [h0, h1, h2, h3, h4, h5, h6, hp, h7]
theorem table_any (w : World) (R : Nat) (l : List UInt8) (a : Option Addr) (c : Nat) (s0 : Rs) (h : RdIn w R l a c s0) :
    Calls Try.prog 28 #[.pointer (some ⟨R, 0, none⟩)] w fun e w' => ∃ lie, e = .returned (.agg (tabCells (tableR l s0).1 lie).toArray) ∧ Only R w w' ∧ RdIn w' R l a c (tableR l s0).2 ∧ TabAt w' (tableR l s0).1 lie ∧ LieFrom w.heap.size lie ∧ (∀ y, lie.at_ = some y → FreeB w' y.block) := by
  obtain ⟨b, s1, h0⟩ : ∃ b s1, someP l s0 3 = (b, s1) := ⟨_, _, rfl⟩
  by_cases hf : b = [70, 84, 1]
  · subst hf
    obtain ⟨m, s2, h1⟩ : ∃ m s2, numP l s1 1 = (m, s2) := ⟨_, _, rfl⟩
    obtain ⟨q, s3, h2⟩ : ∃ m s', numP l s2 2 = (m, s') := ⟨_, _, rfl⟩
    obtain ⟨k, s4, h3⟩ : ∃ m s', numP l s3 1 = (m, s') := ⟨_, _, rfl⟩
    obtain ⟨ns, s5, h4⟩ : ∃ m s', namesR l k s4 = (m, s') := ⟨_, _, rfl⟩
    obtain ⟨o, s6, h5⟩ : ∃ m s', someP l s5 256 = (m, s') := ⟨_, _, rfl⟩
    obtain ⟨g, s7, h6⟩ : ∃ m s', someP l s6 (q * 1) = (m, s') := ⟨_, _, rfl⟩
    obtain ⟨p, hp⟩ : ∃ p, q * (m + 1) = p := ⟨_, rfl⟩
    obtain ⟨x, s8, h7⟩ : ∃ m s', someP l s7 (p * 2) = (m, s') := ⟨_, _, rfl⟩
    rw [tableR_yes l s0 s1 s2 s3 s4 s5 s6 s7 s8 m q k p ns o g x h0 h1 h2 h3 h4 h5 h6 hp h7]
    exact table_yes w R l a c s0 s1 s2 s3 s4 s5 s6 s7 s8 m q k p ns o g x h0 h1 h2 h3 h4 h5 h6 hp h7 h
  · rw [tableR_no l s0 (by rw [h0]; exact hf)]
    refine (table_no w R l a c s0 s1 b h0 hf h).mono ?_
    rintro e w' ⟨rfl, h1, h2, h3⟩
    rw [h0]
    exact ⟨zeroLie, rfl, h1, h2, h3, zero_from _, fun y hy => by cases hy⟩
theorem results_cell_tmp {P : Program} {fn : Func} {p u : Tmp} {ty : TypeId} (h : fn.results = #[.cell p ty, .tmp u]) (tmps : Array Value) (w : World) (g : Nat) (t : TypeId) (cs : Array Value) (fr : Nat × Nat) (d : TypeDesc)
    (hp : tmps.getD p undef = .pointer (some ⟨g, 0, none⟩)) (hg : w.heap[g]? = some (.cells cs t fr))
    (hu : P.underlying ty = some d) (hd : (match d with | .struct _ | .array _ _ => true | _ => false) = true) (hi : (P.info? ty).map (·.size) = some cs.size) :
    (results fn tmps).run P w = .ok (.tuple #[.agg cs, tmps.getD u undef]) w := by
  have hp' : tmps[p]?.getD undef = .pointer (some ⟨g, 0, none⟩) := by simpa using hp
  simp [results, h, hp', asAddr, run_loadVar_row w g t ty cs fr d hg hu hd hi]
theorem below_row {B : Nat} {w W : World} (h : Below B w W) (g : Nat) (cs : Array Value) (hg : B ≤ g) : Below B w (W.setRow g cs) :=
  ⟨h.os, h.tape, h.output, by have := h.size; simpa [World.setRow] using this, fun k hk => (setRow_other W g k cs (by omega)).trans (h.block k hk)⟩
end Go.Proofs.Ytkgfjapflpjdbaa
