/-
  Regular trees, as plain data with the places of their kids, and how they lie in memory. No conditions.
-/
import Derived.Test.YtdckjjkaoecgaaaDoorGa
namespace Go.Proofs.YtdckjjkaoecgaaaDoor
open Go.RowKit

/-- a regular tree; a and cap: where its kids' slice lies, and how much it may hold -/
inductive Ry where
  | mk (kind s0 s1 s2 s3 : Nat) (a : Option Addr) (cap : Nat) (kids : List Ry)
namespace Ry
def kind : Ry → Nat | mk k _ _ _ _ _ _ _ => k
def s0 : Ry → Nat | mk _ s _ _ _ _ _ _ => s
def s1 : Ry → Nat | mk _ _ s _ _ _ _ _ => s
def s2 : Ry → Nat | mk _ _ _ s _ _ _ _ => s
def s3 : Ry → Nat | mk _ _ _ _ s _ _ _ => s
def a : Ry → Option Addr | mk _ _ _ _ _ a _ _ => a
def cap : Ry → Nat | mk _ _ _ _ _ _ c _ => c
def kids : Ry → List Ry | mk _ _ _ _ _ _ _ k => k
end Ry
def kidsV (a : Option Addr) (n cap : Nat) : Value := .slice a n cap
def ryCells (t : Ry) : List Value := [.int .u8 (t.kind : Int), .int .u64 (t.s0 : Int), .int .u64 (t.s1 : Int), .int .u64 (t.s2 : Int), .int .u64 (t.s3 : Int), .slice t.a t.kids.length t.cap]
def ryOk (t : Ry) : Prop := t.kind < 256 ∧ t.s0 < 18446744073709551616 ∧ t.s1 < 18446744073709551616 ∧ t.s2 < 18446744073709551616 ∧ t.s3 < 18446744073709551616
/-- a list of trees in memory, in blocks of some kind, and their kids -/
inductive RyIn (w : World) (S : Nat → Prop) : Option Addr → Nat → List Ry → Prop
  | nil (a : Option Addr) (c : Nat) : RyIn w S a c []
  | row (ks : List Ry) (b off c : Nat) (hS : S b) (hlt : b < w.heap.size) (hn : 0 < ks.length) (hcap : ks.length ≤ c) (hm : ks.length ≤ maxLen) (hok : ∀ i (h : i < ks.length), ryOk ks[i])
      (hc : ∀ i (h : i < ks.length) j u, (ryCells ks[i])[j]? = some u → w.cell? ⟨b, off + i * 6 + j, none⟩ = some u)
      (hk : ∀ i (h : i < ks.length), RyIn w S ks[i].a ks[i].cap ks[i].kids) : RyIn w S (some ⟨b, off, none⟩) c ks
theorem RyIn.later {w w' : World} {S S' : Nat → Prop} {a : Option Addr} {c : Nat} {ks : List Ry} (h : RyIn w S a c ks) (hs : w.heap.size ≤ w'.heap.size) (hf : ∀ b, b < w.heap.size → S b → S' b ∧ w'.heap[b]? = w.heap[b]?) : RyIn w' S' a c ks := by
  induction h with
  | nil a c => exact .nil a c
  | row ks b off c hS hlt hn hcap hm hok hc hk ih =>
    exact .row ks b off c (hf b hlt hS).1 (by omega) hn hcap hm hok (fun i h j u hu => by rw [World.cell?_of_block (w := w) (hf b hlt hS).2]; exact hc i h j u hu) ih
theorem RyIn.on {w w' : World} {S : Nat → Prop} {a : Option Addr} {c : Nat} {ks : List Ry} (h : RyIn w S a c ks) (hb : Below w.heap.size w w') : RyIn w' S a c ks :=
  h.later hb.size (fun b hl hS => ⟨hS, hb.block b hl⟩)
theorem RyIn.under {w w' : World} {B : Nat} {a : Option Addr} {c : Nat} {ks : List Ry} (h : RyIn w (· < B) a c ks) (hb : Below B w w') : RyIn w' (· < B) a c ks :=
  h.later hb.size (fun b _ hS => ⟨hS, hb.block b hS⟩)
theorem RyIn.mono {w : World} {S S' : Nat → Prop} {a : Option Addr} {c : Nat} {ks : List Ry} (h : RyIn w S a c ks) (hf : ∀ b, b < w.heap.size → S b → S' b) : RyIn w S' a c ks :=
  h.later (Nat.le_refl _) (fun b hl hS => ⟨hf b hl hS, rfl⟩)
theorem RyIn.len {w : World} {S : Nat → Prop} {a : Option Addr} {c : Nat} {ks : List Ry} (h : RyIn w S a c ks) : ks.length ≤ maxLen ∧ ks.length ≤ c := by
  cases h with
  | nil a c => exact ⟨Nat.zero_le _, Nat.zero_le _⟩
  | row _ b off c hS hlt hn hcap hm hok hc hk => exact ⟨hm, hcap⟩
/-- the first one's cells, and the others -/
theorem RyIn.head {w : World} {S : Nat → Prop} {a : Option Addr} {c : Nat} {t : Ry} {ks : List Ry} (h : RyIn w S a c (t :: ks)) :
    ∃ b off, a = some ⟨b, off, none⟩ ∧ b < w.heap.size ∧ S b ∧ ryOk t ∧ (∀ j u, (ryCells t)[j]? = some u → w.cell? ⟨b, off + j, none⟩ = some u) ∧ RyIn w S t.a t.cap t.kids ∧ 1 ≤ c ∧ ∀ a' : Option Addr, (0 < ks.length → a' = some ⟨b, off + 6, none⟩) → RyIn w S a' (c - 1) ks := by
  cases h with
  | row _ b off c hS hlt hn hcap hm hok hc hk =>
    refine ⟨b, off, rfl, hlt, hS, hok 0 (by simp), fun j u hu => ?_, hk 0 (by simp), by simp at hcap; omega, fun a' ha => ?_⟩
    · have := hc 0 (by simp) j u hu
      rw [Nat.zero_mul, Nat.add_zero] at this
      exact this
    · by_cases h0 : 0 < ks.length
      · rw [ha h0]
        refine .row ks b (off + 6) (c - 1) hS hlt h0 (by simp at hcap; omega) (by simp at hm; omega) (fun i hi => ?_) (fun i hi j u hu => ?_) (fun i hi => ?_)
        · exact hok (i + 1) (by simp; omega)
        · have := hc (i + 1) (by simp; omega) j u hu
          rw [show off + 6 + i * 6 + j = off + (i + 1) * 6 + j by omega]
          exact this
        · exact hk (i + 1) (by simp; omega)
      · have : ks = [] := List.eq_nil_of_length_eq_zero (by omega)
        subst this
        exact .nil _ _
/-- a place's cells -/
theorem RyIn.at_ {w : World} {S : Nat → Prop} {a : Option Addr} {c : Nat} {ks : List Ry} (h : RyIn w S a c ks) {k : Nat} (hk : k < ks.length) :
    ∃ b off, a = some ⟨b, off, none⟩ ∧ b < w.heap.size ∧ S b ∧ ryOk ks[k] ∧ (∀ j u, (ryCells ks[k])[j]? = some u → w.cell? ⟨b, off + k * 6 + j, none⟩ = some u) ∧ RyIn w S ks[k].a ks[k].cap ks[k].kids := by
  cases h with
  | nil => simp at hk
  | row _ b off c hS hlt hn hcap hm hok hc hkk => exact ⟨b, off, rfl, hlt, hS, hok k hk, hc k hk, hkk k hk⟩
/-! ### the nodes of a tree, itself ahead -/
mutual
def preR : Ry → List Ry
  | .mk k s0 s1 s2 s3 a c ks => .mk k s0 s1 s2 s3 a c ks :: preL ks
def preL : List Ry → List Ry
  | [] => []
  | t :: r => preR t ++ preL r
end
theorem preR_eq (t : Ry) : preR t = t :: preL t.kids := by cases t; rfl
theorem preL_cons (t : Ry) (r : List Ry) : preL (t :: r) = t :: (preL t.kids ++ preL r) := by rw [preL, preR_eq]; rfl
theorem preL_app (l m : List Ry) : preL (l ++ m) = preL l ++ preL m := by
  induction l with
  | nil => rfl
  | cons t r ih => rw [List.cons_append, preL, ih, preL, List.append_assoc]
theorem preL_len (l : List Ry) : l.length ≤ (preL l).length := by
  induction l with
  | nil => simp
  | cons t r ih =>
    rw [preL_cons]
    simp
    omega
/-- right but for its kids' own -/
def noSetB (t : Ry) : Bool := t.s0 == 0 && t.s1 == 0 && t.s2 == 0 && t.s3 == 0
def aloneR (t : Ry) : Bool :=
  if t.kind = 0 then noSetB t && t.kids.length == 0
  else if t.kind = 1 then !noSetB t && t.kids.length == 0
  else if t.kind = 2 ∨ t.kind = 3 then noSetB t && decide (2 ≤ t.kids.length)
  else if t.kind = 4 then noSetB t && t.kids.length == 1
  else false
def rightR (t : Ry) : Bool := (preR t).all aloneR
end Go.Proofs.YtdckjjkaoecgaaaDoor
