/-
  What frame.Push keeps in memory; the contract of its closure, that keeps a byte. Conditions: the frame and the bytes held lie in memory, each in a block of its own; fewer than a million bytes.
-/
import Derived.Test.YtlpplmcploddaaaFrM
import Derived.Test.YtlpplmcploddaaaFrP
namespace Go.Proofs.Ytlpplmcploddaaa
open Go.RowKit

theorem wpList_append_q {ops : Array Oper} {rest : List Oper} {o : Oper} {act : Act} {Q : Exit → Act → World → Prop} {w : World} (hgd : o.guard = none) (s x : Operand)
    (ho : o.op = .call { callee := .builtin .append, args := #[s, x], argTypes := #[22, 22] })
    (base g c : Nat) (l : List UInt8) (hs : act.eval s = .slice (some ⟨g, 0, none⟩) l.length c) (h : OwnQ w base g c l) (a : Addr) (k : Nat) (b : UInt8) (hx : act.eval x = .slice (some a) 1 k) (hc : w.cell? a = some (byteV b)) (hle : l.length + 1 ≤ 1000000) (hbase : base ≤ w.heap.size)
    (hQ : ∀ g' c' w', OwnQ w' base g' c' (l ++ [b]) → w.grownBy w' (some g) → wpList Try.prog ops Q rest (act.put o.dst (.slice (some ⟨g', 0, none⟩) (l.length + 1) c')) w') : wpList Try.prog ops Q (o :: rest) act w := by
  refine wpList_plain hgd fun K hK => ?_
  obtain ⟨g', c', w', hr, h2, h3⟩ := run_append_q w base g c l o.type h a k b hc hle hbase
  unfold Oper.wp execOp
  simp only [ho, resolve, invoke, builtin, Sem.run_bind, Sem.run_pure, Result.andThen_ok, List.map_toArray, List.map_cons, List.map_nil, hs, hx, hr]
  exact hK _ _ (hQ _ _ _ h2 h3)

def frCells (m : Int) (H : List UInt8) (over cr : Bool) : Array Value := #[.int .i64 m, .string (bs H), .bool over, .bool cr]

def lnCells (x : LnP) : List Value := [.string (bs x.text), .bool x.long]
def linCells (ls : List LnP) : List Value := ls.flatMap lnCells
theorem linCells_snoc (ls : List LnP) (x : LnP) : linCells (ls ++ [x]) = linCells ls ++ lnCells x := by simp [linCells]
theorem linCells_app (ls ms : List LnP) : linCells (ls ++ ms) = linCells ls ++ linCells ms := by simp [linCells]
theorem linCells_len (ls : List LnP) : (linCells ls).length = ls.length * 2 := by
  induction ls with
  | nil => rfl
  | cons x r ih => simp only [linCells, List.flatMap_cons, List.length_append, List.length_cons] at ih ⊢; rw [ih]; simp [lnCells]; omega

/-- what frame.Push has: the frame in block F (its text as it came in: H), its answer in R, what is held in the row g that the variable B names, the lines told -/
structure PhW (w W : World) (F R B base g c m : Nat) (vl : Value) (ls : List LnP) (H u : List UInt8) (over cr : Bool) : Prop where
  low : Below w.heap.size w W
  fr : Blk W F 35 (frCells m H over cr)
  res : Blk W R 35 (frCells 0 [] false false)
  hv : Blk W B 22 #[.slice (some ⟨g, 0, none⟩) (u.take m).length c]
  own : OwnQ W base g c (u.take m)
  lin : W.ownsRow base 43 2 vl ls.length (linCells ls)
  fb : F < base
  rb : R < base
  fw : w.heap.size ≤ F
  rw_ : w.heap.size ≤ R
  bw : w.heap.size ≤ B
  fr_ne : F ≠ R
  hb : base ≤ W.heap.size
  over_eq : over = decide (m < u.length)
section
variable {w W : World} {F R B base g c m : Nat} {vl : Value} {ls : List LnP} {H u : List UInt8} {over cr : Bool}
theorem PhW.ne (h : PhW w W F R B base g c m vl ls H u over cr) : B ≠ F := by
  intro e
  have h1 := h.fr
  have h2 := h.hv
  subst e
  unfold Blk at h1 h2
  rw [h1] at h2
  simp [frCells] at h2
theorem PhW.ne2 (h : PhW w W F R B base g c m vl ls H u over cr) : B ≠ R := by
  intro e
  have h1 := h.res
  have h2 := h.hv
  subst e
  unfold Blk at h1 h2
  rw [h1] at h2
  simp [frCells] at h2
/-- the lines' row is not that of the bytes -/
theorem PhW.apart (h : PhW w W F R B base g c m vl ls H u over cr) : vl.ownBlock = none ∨ vl.ownBlock ≠ some g := by
  rcases h.lin.2 with ⟨e, _⟩ | ⟨q, cap, cur, e, _, hq, _⟩
  · left; rw [e]; rfl
  · right
    rw [e]
    intro hh
    obtain ⟨cur2, fz, h1, _⟩ := h.own.row
    simp only [Value.ownBlock, Option.some.injEq] at hh
    rw [hh, h1] at hq
    simp at hq
/-- the frame's block is written -/
theorem PhW.put (h : PhW w W F R B base g c m vl ls H u over cr) (i : Nat) (v : Value) (o2 r2 : Bool) (hcs : (frCells m H over cr).setIfInBounds i v = frCells m H o2 r2) (ho : o2 = decide (m < u.length)) : PhW w (W.setCell ⟨F, i, none⟩ v) F R B base g c m vl ls H u o2 r2 := by
  refine ⟨h.low.setCell (p := ⟨F, i, none⟩) h.fw _, ?_, h.res.other (p := ⟨F, i, none⟩) (by have := h.fr_ne; show R ≠ F; omega) _, h.hv.other (p := ⟨F, i, none⟩) h.ne _, h.own.kept (Below.heap_setCell _ _ _ _ (by have := h.own.base_le; have := h.fb; show g ≠ F; omega)), ownsRow_setCell_below h.lin (a := ⟨F, i, none⟩) h.fb _, h.fb, h.rb, h.fw, h.rw_, h.bw, h.fr_ne, by have := h.hb; simpa [World.setCell] using this, ho⟩
  rw [← hcs]
  exact h.fr.set_ i v
/-- a byte is kept, where there is no room for it -/
theorem PhW.full (h : PhW w W F R B base g c m vl ls H u over cr) (b : UInt8) (hf : m ≤ (u.take m).length) : PhW w (W.setCell ⟨F, 2, none⟩ (.bool true)) F R B base g c m vl ls H (u ++ [b]) true cr := by
  obtain ⟨t1, t2⟩ := take_full hf b
  refine ⟨h.low.setCell (p := ⟨F, 2, none⟩) h.fw _, h.fr.set_ 2 _, h.res.other (p := ⟨F, 2, none⟩) (by have := h.fr_ne; show R ≠ F; omega) _, ?_, ?_, ownsRow_setCell_below h.lin (a := ⟨F, 2, none⟩) h.fb _, h.fb, h.rb, h.fw, h.rw_, h.bw, h.fr_ne, by have := h.hb; simpa [World.setCell] using this, t2⟩
  · rw [← t1]
    exact h.hv.other (p := ⟨F, 2, none⟩) h.ne _
  · rw [← t1]
    exact h.own.kept (Below.heap_setCell _ _ _ _ (by have := h.own.base_le; have := h.fb; show g ≠ F; omega))
theorem PhW.later (h : PhW w W F R B base g c m vl ls H u over cr) {W' : World} (hb : Below W.heap.size W W') : PhW w W' F R B base g c m vl ls H u over cr :=
  ⟨low_trans h.low hb, h.fr.below hb h.fr.lt, h.res.below hb h.res.lt, h.hv.below hb h.hv.lt, h.own.below hb h.own.lt, ownsRow_kept h.lin hb, h.fb, h.rb, h.fw, h.rw_, h.bw, h.fr_ne, Nat.le_trans h.hb hb.size, h.over_eq⟩
/-- a byte is kept, where there is room -/
theorem PhW.room (h : PhW w W F R B base g c m vl ls H u over cr) (b : UInt8) (hf : ¬ m ≤ (u.take m).length) {W' : World} {g' c' : Nat} (hq : OwnQ W' base g' c' (u.take m ++ [b])) (hg : W.grownBy W' (some g)) :
    Blk W' B 22 #[.slice (some ⟨g, 0, none⟩) (u.take m).length c] ∧ PhW w (W'.setCell ⟨B, 0, none⟩ (.slice (some ⟨g', 0, none⟩) ((u.take m).length + 1) c')) F R B base g' c' m vl ls H (u ++ [b]) over cr := by
  obtain ⟨t1, t2⟩ := take_keep hf b
  have hbl : ∀ k, k < base → k ≠ g := fun k hk => by have := h.own.base_le; omega
  have hs : ∀ k, k < base → some k ≠ some g := fun k hk e => hbl k hk (by injection e)
  have hb1 : Blk W' B 22 #[.slice (some ⟨g, 0, none⟩) (u.take m).length c] := h.hv.kept hg (fun e => h.own.ne h.hv (by decide) (by injection e))
  have hlen : ((u ++ [b]).take m).length = (u.take m).length + 1 := by rw [← t1]; simp
  have hne : B ≠ g' := hq.ne hb1 (by decide)
  refine ⟨hb1, ⟨(h.low.grown hg h.low.size (fun k e => by injection e with e; have := h.own.base_le; have := h.fb; have := h.fw; omega)).setCell (p := ⟨B, 0, none⟩) h.bw _, (h.fr.kept hg (hs F h.fb)).other (p := ⟨B, 0, none⟩) (by have := h.ne; show F ≠ B; omega) _, (h.res.kept hg (hs R h.rb)).other (p := ⟨B, 0, none⟩) (by have := h.ne2; show R ≠ B; omega) _, ?_, ?_, (h.lin.kept hg h.apart).kept (grownBy_setCell' W' B _) (.inr (Boxed.not_row hb1 (by decide) (h.lin.kept hg h.apart)).symm), h.fb, h.rb, h.fw, h.rw_, h.bw, h.fr_ne, by have := h.hb; have := hg.size; simp [World.setCell]; omega, by rw [h.over_eq]; exact t2⟩⟩
  · rw [hlen]
    exact hb1.set_ 0 _
  · rw [← t1]
    exact hq.kept (Below.heap_setCell _ _ _ _ (by show g' ≠ B; omega))
end
set_option maxRecDepth 100000 in
set_option maxHeartbeats 1000000 in
theorem keep_any {w W : World} {F R B base g c m : Nat} {vl : Value} {ls : List LnP} {H u : List UInt8} {over cr : Bool} (h : PhW w W F R B base g c m vl ls H u over cr) (b : UInt8) (hm : m ≤ 100000) :
    Calls Try.prog 24 #[.int .u8 (b.toNat : Int), .pointer (some ⟨B, 0, none⟩), .pointer (some ⟨F, 0, none⟩)] W fun e W' => e = .returned (.tuple #[]) ∧ ∃ g' c' o2, PhW w W' F R B base g' c' m vl ls H (u ++ [b]) o2 cr := by
  have c0 := h.hv.cell 0
  have z0 := h.hv.frozen 0
  have f0 := h.fr.cell 0
  have f2 := h.fr.cell 2
  have z2 := h.fr.frozen 2
  have ht : (u.take m).length ≤ 100000 := by rw [List.length_take]; omega
  by_cases hf : m ≤ (u.take m).length
  · have HE := Lib.hid (h.full b hf)
    generalize (u.take m).length = n at *
    simp [frCells] at f0 f2 c0
    have hle : (m : Int) ≤ (n : Int) := by omega
    clear h
    go_enter Try.func24, Try.ntmps24
    go_wp2
    refine bodyPost_ret (results_none rfl _ _ _) rfl ?_
    exact ⟨rfl, _, _, _, HE.out⟩
  · have hal := h.own.alloc (.cells #[byteV b] 5)
    have HQ := Lib.hid hal
    have hP : PhW w (W.alloc (.cells #[byteV b] 5)) F R B base g c m vl ls H u over cr := h.later ((Below.refl _ _).alloc (Nat.le_refl _) _)
    have HR : Hid (∀ {W' : World} {g' c' : Nat}, OwnQ W' base g' c' (u.take m ++ [b]) → (W.alloc (.cells #[byteV b] 5)).grownBy W' (some g) → Blk W' B 22 #[.slice (some ⟨g, 0, none⟩) (u.take m).length c] ∧ PhW w (W'.setCell ⟨B, 0, none⟩ (.slice (some ⟨g', 0, none⟩) ((u.take m).length + 1) c')) F R B base g' c' m vl ls H (u ++ [b]) over cr) := fun hq hg => hP.room b hf hq hg
    have HBS := Lib.hid h.hb
    have hle : ¬ (m : Int) ≤ ((u.take m).length : Int) := by omega
    have HC : Hid ((W.alloc (.cells #[byteV b] 5)).cell? ⟨W.heap.size, 0, none⟩ = some (byteV b)) := (Blk.new W 5 #[byteV b]).cell 0
    unfold byteV at HC HR HQ
    clear h hal hP
    generalize u.take m = l at *
    simp [frCells] at f0 f2 c0
    go_enter Try.func24, Try.ntmps24
    go_wp2_with (at_builtin; refine wpList_append_q rfl _ _ rfl base g c l rfl HQ.out ⟨W.heap.size, 0, none⟩ 1 b rfl HC.out (by omega) ?c1 ?_)
    case c1 => have := HBS.out; simp; omega
    intro g' c' w' hq hg
    obtain ⟨h1, h2⟩ := HR.out hq hg
    have c1 := h1.cell 0
    have z1 := h1.frozen 0
    have HE := Lib.hid h2
    clear h1 h2 hq hg HR HQ
    go_wp2
    go_end0
    exact ⟨rfl, _, _, _, HE.out⟩
end Go.Proofs.Ytlpplmcploddaaa
