/-
  A machine under way in memory; the contract of (*nfa.walk).come: what a state comes to without a byte is marked. Conditions: the machine's ways lead to states; at most 400 words of marks.
-/
import Derived.Test.YtdckjjkaoecgaaaDoorNwA
import Derived.Test.YtdckjjkaoecgaaaDoorNbA
import Derived.Deep.RegionLaw
import Derived.Maps.AppendAt
namespace Go.Proofs.YtdckjjkaoecgaaaDoor
open Go.RowKit Go.Shelf

/-- the machine's states, below a base -/
def NsIn (W : World) (B : Nat) (a : Option Addr) (st : List NS) : Prop := ∀ k s, st[k]? = some s → ∃ g off, a = some ⟨g, off, none⟩ ∧ g < B ∧ ∀ j u, (nsCells s)[j]? = some u → W.cell? ⟨g, off + k * 8 + j, none⟩ = some u
theorem NsIn.below {W W' : World} {B : Nat} {a : Option Addr} {st : List NS} (h : NsIn W B a st) (hb : Below B W W') : NsIn W' B a st := fun k s hk => by
  obtain ⟨g, off, e1, e2, e3⟩ := h k s hk
  exact ⟨g, off, e1, e2, fun j u hj => (hb.cell (p := ⟨g, off + k * 8 + j, none⟩) e2).trans (e3 j u hj)⟩
/-- under way -/
structure Wk (W : World) (B b : Nat) (sa : Option Addr) (sn sc h x m : Nat) (av : Value) (ws wn : List Nat) : Prop where
  blk : Blk W b 93 #[.slice sa sn sc, .slice (some ⟨h, 0, none⟩) m m, .slice (some ⟨x, 0, none⟩) m m, av]
  here : Blk W h 42 (wordsV ws)
  next : Blk W x 42 (wordsV wn)
  apart : h ≠ x
  ge : B ≤ b ∧ B ≤ h ∧ B ≤ x
/-- blocks of other types stay, and one of numbers, and what is no cells -/
def KeepW (tg : Nat) (w w' : World) : Prop := KeepsOthers w w' ∧ ∀ g t cs, Blk w g t cs → t ≠ 93 → t ≠ 42 → (t ≠ 3 ∨ g = tg) → Blk w' g t cs
theorem KeepW.refl (tg : Nat) (w : World) : KeepW tg w w := ⟨KeepsOthers.refl _, fun _ _ _ h _ _ _ => h⟩
theorem KeepW.trans {tg : Nat} {a b c : World} (h : KeepW tg a b) (k : KeepW tg b c) : KeepW tg a c := ⟨h.1.trans k.1, fun g t cs hb h1 h2 h3 => k.2 g t cs (h.2 g t cs hb h1 h2 h3) h1 h2 h3⟩
theorem KeepW.of_below {tg : Nat} {w w' : World} (h : Below w.heap.size w w') : KeepW tg w w' := ⟨⟨h.size, fun k _ hk _ => (h.block k (Array.getElem?_eq_some_iff.1 hk).1).trans hk⟩, fun _ _ _ hb _ _ _ => hb.below h hb.lt⟩
theorem KeepW.alloc {tg : Nat} {a w : World} (h : KeepW tg a w) (o : Obj) : KeepW tg a (w.alloc o) := ⟨h.1.trans (KeepsOthers.alloc _ _), fun g t cs hb h1 h2 h3 => (h.2 g t cs hb h1 h2 h3).alloc o⟩
theorem KeepW.drew {tg : Nat} {a w : World} (h : KeepW tg a w) : KeepW tg a w.drew := ⟨h.1.trans (KeepsOthers.drew _), fun g t cs hb h1 h2 h3 => (h.2 g t cs hb h1 h2 h3).drew⟩
def pV (p : Nat) : Value := .int .i64 (p : Int)
/-- a row of places of one's own, which is not the one that stays -/
structure OwnX (W : World) (B tg : Nat) (v : Value) (l : List Nat) : Prop where
  own : W.ownsRow B 3 1 v l.length (l.map pV)
  ne : v.ownBlock ≠ some tg
  lt : tg < W.heap.size
theorem OwnX.alloc {W : World} {B tg : Nat} {v : Value} {l : List Nat} (h : OwnX W B tg v l) (o : Obj) : OwnX (W.alloc o) B tg v l := ⟨h.own.alloc o, h.ne, by have := h.lt; rw [World.size_alloc]; omega⟩
theorem OwnX.drew {W : World} {B tg : Nat} {v : Value} {l : List Nat} (h : OwnX W B tg v l) : OwnX W.drew B tg v l := ⟨h.own.drew, h.ne, h.lt⟩
theorem OwnX.later {W W' : World} {B tg : Nat} {v : Value} {l : List Nat} (h : OwnX W B tg v l) (hb : Below W.heap.size W W') : OwnX W' B tg v l := ⟨ownsRow_kept h.own hb, h.ne, Nat.lt_of_lt_of_le h.lt hb.size⟩
theorem blk_ne {W : World} {g g' : Nat} {t t' : TypeId} {cs cs' : Array Value} (h : Blk W g t cs) (h' : Blk W g' t' cs') (ht : t ≠ t') : g ≠ g' := by
  rintro rfl
  have := (show W.heap[g]? = _ from h).symm.trans h'
  injection this with this
  injection this with _ e _
  exact ht e
theorem Wk.keep {W W' : World} {B b : Nat} {sa : Option Addr} {sn sc h x m : Nat} {av : Value} {ws wn : List Nat} (k : Wk W B b sa sn sc h x m av ws wn) (hs : ∀ g t cs, Blk W g t cs → t ≠ 3 → Blk W' g t cs) : Wk W' B b sa sn sc h x m av ws wn :=
  ⟨hs _ _ _ k.blk (by decide), hs _ _ _ k.here (by decide), hs _ _ _ k.next (by decide), k.apart, k.ge⟩
theorem Wk.alloc {W : World} {B b : Nat} {sa : Option Addr} {sn sc h x m : Nat} {av : Value} {ws wn : List Nat} (k : Wk W B b sa sn sc h x m av ws wn) (o : Obj) : Wk (W.alloc o) B b sa sn sc h x m av ws wn := k.keep fun _ _ _ hb _ => hb.alloc o
theorem Wk.drew {W : World} {B b : Nat} {sa : Option Addr} {sn sc h x m : Nat} {av : Value} {ws wn : List Nat} (k : Wk W B b sa sn sc h x m av ws wn) : Wk W.drew B b sa sn sc h x m av ws wn := k.keep fun _ _ _ hb _ => hb.drew
theorem Wk.grown {W W' : World} {B b : Nat} {sa : Option Addr} {sn sc h x m : Nat} {av : Value} {ws wn : List Nat} (k : Wk W B b sa sn sc h x m av ws wn) {B2 n : Nat} {v : Value} {xs : List Value} (ho : W.ownsRow B2 3 1 v n xs) (hg : W.grownBy W' v.ownBlock) : Wk W' B b sa sn sc h x m av ws wn := k.keep fun _ _ _ hb ht => hb.kept hg (blk_apart ho hb ht)
theorem keepW_grown {tg : Nat} {a W W' : World} (h : KeepW tg a W) {B2 : Nat} {v : Value} {l : List Nat} (ho : OwnX W B2 tg v l) (hg : W.grownBy W' v.ownBlock) : KeepW tg a W' := ⟨h.1.trans (KeepsOthers.of_grownBy hg (fun _ _ e hj => own_cells ho.own e hj)), fun g t cs hb h1 h2 h3 => (h.2 g t cs hb h1 h2 h3).kept hg (by
  rcases h3 with h3 | h3
  · exact blk_apart ho.own (h.2 g t cs hb h1 h2 (.inl h3)) h3
  · rw [h3]; exact fun e => ho.ne e.symm)⟩
/-- a place is marked -/
theorem Wk.put {W : World} {B b : Nat} {sa : Option Addr} {sn sc h x m : Nat} {av : Value} {ws wn : List Nat} (k : Wk W B b sa sn sc h x m av ws wn) (p : Nat) (u : Value) (hb : Blk (W.setCell ⟨x, p / 64, none⟩ u).drew x 42 (wordsV (putW wn p))) : Wk (W.setCell ⟨x, p / 64, none⟩ u).drew B b sa sn sc h x m av ws (putW wn p) :=
  ⟨(k.blk.other (p := ⟨x, p / 64, none⟩) (blk_ne k.blk k.next (by decide)) u).drew, (k.here.other (p := ⟨x, p / 64, none⟩) k.apart u).drew, hb, k.apart, k.ge⟩
/-- what is ahead is kept -/
theorem Wk.keepAhead {W : World} {B b : Nat} {sa : Option Addr} {sn sc h x m : Nat} {av : Value} {ws wn : List Nat} (k : Wk W B b sa sn sc h x m av ws wn) (u : Value) : Wk (W.setCell ⟨b, 3, none⟩ u) B b sa sn sc h x m u ws wn :=
  ⟨k.blk.set_ 3 u, k.here.other (p := ⟨b, 3, none⟩) (blk_ne k.here k.blk (by decide)) u, k.next.other (p := ⟨b, 3, none⟩) (blk_ne k.next k.blk (by decide)) u, k.apart, k.ge⟩
theorem keepW_set {tg : Nat} {a W : World} (h : KeepW tg a W) {g : Nat} {t : TypeId} {cs : Array Value} (hb : Blk W g t cs) (ht : t = 93 ∨ t = 42) (i : Nat) (u : Value) : KeepW tg a (W.setCell ⟨g, i, none⟩ u) := ⟨h.1.trans (KeepsOthers.setCell _ _ _), fun g' t' cs' hb' h1 h2 h3 =>
  (h.2 g' t' cs' hb' h1 h2 h3).other (p := ⟨g, i, none⟩) (blk_ne (h.2 g' t' cs' hb' h1 h2 h3) hb (by rintro rfl; rcases ht with ht | ht <;> contradiction)) u⟩
theorem infoNt : (Tryd.prog.info? 3).map (fun i => (i.zero, i.size, i.bytes)) = some (some (.int .i64 0), 1, 8) := by kernel_rfl
set_option maxRecDepth 100000 in
theorem app_places {ops : Array Oper} {rest : List Oper} {o : Oper} {act : Act} {Q : Exit → Act → World → Prop} {W : World} (hgd : o.guard = none) (s x : Operand)
    (ho : o.op = .call { callee := .builtin .append, args := #[s, x], argTypes := #[35, 35] })
    (B tg : Nat) (v : Value) (l : List Nat) (hs : act.eval s = v) (hv : OwnX W B tg v l) (hB : B ≤ W.heap.size)
    (g m : Nat) (r : List Nat) (hx : act.eval x = .slice (some ⟨g, 0, none⟩) m m) (hr : r.length = m) (hb : Blk W g 3 (r.map pV).toArray) (hle : l.length + m ≤ 10000000)
    (h : ∀ v' W', OwnX W' B tg v' (l ++ r) → W.grownBy W' v.ownBlock → wpList Tryd.prog ops Q rest (act.put o.dst v') W') : wpList Tryd.prog ops Q (o :: rest) act W := by
  obtain ⟨i0, hi, hz0, hz1, hz2⟩ := info_parts infoNt
  refine wpList_append_own_at W hgd s x 35 ho B 3 i0 (.int .i64 0) 1 8 Tryd.underlying35 hi hz0 hz1 hz2 rfl (by decide) v l.length (l.map pV) hs hv.own ⟨g, 0, none⟩ m m (r.map pV) hx (by rw [List.length_map, hr, Nat.mul_one]) ?_ ?_ (by unfold maxLen; omega) (by omega) hB ?_
  · intro j u hj
    rw [Addr.add_lit, Nat.zero_add, hb.cell j]
    simpa using hj
  · intro u hu
    obtain ⟨b, _, e⟩ := List.mem_map.1 hu
    rw [← e]
    rfl
  · intro v' W' h2 h3 _ h5
    refine h v' W' ⟨?_, ?_, Nat.lt_of_lt_of_le hv.lt h3.size⟩ h3
    · rw [List.length_append, hr, List.map_append]
      exact h2
    · rcases h5 with h5 | h5
      · rw [h5]; exact hv.ne
      · rw [h5]
        intro e
        injection e with e
        have := hv.lt
        omega
set_option maxRecDepth 100000 in
theorem step_places {ops : Array Oper} {o : Oper} {act : Act} {K : Act → World → Prop} {Q : Exit → Act → World → Prop} {W : World} {E : Prop} (hgd : o.guard = none) (s x : Operand)
    (ho : o.op = .call { callee := .builtin .append, args := #[s, x], argTypes := #[35, 35] })
    (B tg : Nat) (v : Value) (l : List Nat) (hs : act.eval s = v) (hv : OwnX W B tg v l) (hB : B ≤ W.heap.size)
    (g m : Nat) (r : List Nat) (hx : act.eval x = .slice (some ⟨g, 0, none⟩) m m) (hr : r.length = m) (hb : Blk W g 3 (r.map pV).toArray) (hle : l.length + m ≤ 10000000)
    (h : ∀ v' W', OwnX W' B tg v' (l ++ r) → W.grownBy W' v.ownBlock → K (act.put o.dst v') W') :
    if Region.wanted o (yielded ops act.tmps) = true then Oper.wp Tryd.prog o act W K Q else E := by
  obtain ⟨i0, hi, hz0, hz1, hz2⟩ := info_parts infoNt
  have hw : Region.wanted o (yielded ops act.tmps) = true := by simp [Region.wanted, hgd]
  rw [if_pos hw]
  obtain ⟨v', W', hrun, h2, h3, _, h5⟩ := run_append_own_at (P := Tryd.prog) W B 35 o.type 3 i0 (.int .i64 0) 1 8 Tryd.underlying35 hi hz0 hz1 hz2 rfl (by decide) v l.length (l.map pV) hv.own ⟨g, 0, none⟩ m m (r.map pV) (by rw [List.length_map, hr, Nat.mul_one])
    (fun j u hj => by
      rw [Addr.add_lit, Nat.zero_add, hb.cell j]
      simpa using hj)
    (fun u hu => by
      obtain ⟨b, _, e⟩ := List.mem_map.1 hu
      rw [← e]
      rfl) (by unfold maxLen; omega) (by omega) hB
  unfold Oper.wp execOp
  simp only [ho, resolve, invoke, builtin, Sem.run_bind, Sem.run_pure, Result.andThen_ok, List.map_toArray, List.map_cons, List.map_nil, hs, hx, hrun]
  refine h v' W' ⟨?_, ?_, Nat.lt_of_lt_of_le hv.lt h3.size⟩ h3
  · rw [List.length_append, hr, List.map_append]
    exact h2
  · rcases h5 with h5 | h5
    · rw [h5]; exact hv.ne
    · rw [h5]
      intro e
      injection e with e
      have := hv.lt
      omega
/-- how many places are not marked -/
def cntW (m : Nat) (wn : List Nat) : Nat := (List.range (64 * m)).countP fun p => !bitAt wn p
theorem cnt_strike (f g : Nat → Bool) (p : Nat) (hg : ∀ x, g x = (f x && decide (x ≠ p))) (hf : f p = true) : ∀ n, (List.range n).countP g + (if p < n then 1 else 0) = (List.range n).countP f
  | 0 => by simp
  | n + 1 => by
    have ih := cnt_strike f g p hg hf n
    rw [List.range_succ, List.countP_append, List.countP_append, ← ih]
    simp only [List.countP_cons, List.countP_nil, hg]
    rcases Nat.lt_trichotomy p n with h | h | h
    · have e1 : ¬ n = p := by omega
      have e2 : p < n + 1 := by omega
      simp [h, e1, e2]
      omega
    · subst h
      simp [hf]
    · have e1 : ¬ n = p := by omega
      have e2 : ¬ p < n + 1 := by omega
      have e3 : ¬ p < n := by omega
      simp [e1, e2, e3]
theorem cnt_put {m : Nat} {wn : List Nat} {p : Nat} (hm : wn.length = m) (hp : p < 64 * m) (h : bitAt wn p = false) : cntW m (putW wn p) + 1 = cntW m wn := by
  have := cnt_strike (fun q => !bitAt wn q) (fun q => !bitAt (putW wn p) q) p (fun x => by rw [bit_put (by omega)]; cases bitAt wn x <;> simp) (by simp [h]) (64 * m)
  rw [if_pos hp] at this
  exact this
theorem cnt_le (m : Nat) (wn : List Nat) : cntW m wn ≤ 64 * m := by
  unfold cntW
  exact Nat.le_trans List.countP_le_length (by simp)
end Go.Proofs.YtdckjjkaoecgaaaDoor
