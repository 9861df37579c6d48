/-
  A row of bytes of one's own that grows; the contract of table.appendTwo. Conditions: the row is its own.
-/
import Derived.Test.YtkgfjapflpjdbaaTbJ
import Derived.OwnWalk
import Derived.Maps.AppendAt
import Derived.Lib.AppendStr
import Derived.Outline
import Derived.Deep.DeepMust
namespace Go.Proofs.Ytkgfjapflpjdbaa
open Go.RowKit

/-- bytes in a row of one's own, above W1 -/
structure OutAt (W1 W : World) (v : Value) (l : List UInt8) : Prop where
  own : W.ownsRow W1.heap.size 5 1 v l.length (l.map byteV)
  low : Below W1.heap.size W1 W
theorem OutAt.nil (W : World) : OutAt W W (.slice none 0 0) [] := ⟨World.ownsRow_nil _ _ _ _, Below.refl _ _⟩
theorem below_grown {B : Nat} {a w w' : World} {row : Option Nat} (h : Below B a w) (hg : w.grownBy w' row) (hs : B ≤ w.heap.size) (hr : ∀ k, row = some k → B ≤ k) : Below B a w' := h.grown hg hs hr
theorem OutAt.alloc {W1 W : World} {v : Value} {l : List UInt8} (h : OutAt W1 W v l) (o : Obj) : OutAt W1 (W.alloc o) v l := ⟨h.own.alloc o, h.low.alloc h.low.size o⟩
theorem OutAt.grown {W1 W W' : World} {v v' : Value} {l m : List UInt8} (h : OutAt W1 W v l) (h2 : W'.ownsRow W1.heap.size 5 1 v' m.length (m.map byteV)) (hg : W.grownBy W' v.ownBlock) : OutAt W1 W' v' m :=
  ⟨h2, h.low.grown hg h.low.size (fun k hk => (h.own.lt k hk).1)⟩
theorem info8 : (Try.prog.info? 5).map (fun i => (i.zero, i.size, i.bytes)) = some (some (.int .u8 0), 1, 1) := by kernel_rfl
def hiB (n : Nat) : UInt8 := UInt8.ofNat (n / 256)
def loB (n : Nat) : UInt8 := UInt8.ofNat n
set_option maxRecDepth 100000 in
set_option maxHeartbeats 1000000 in
theorem appendTwo_any (W1 W : World) (v : Value) (l : List UInt8) (n : Nat) (hn : n ≤ 65535) (hl : l.length ≤ 140737488000000) (h : OutAt W1 W v l) :
    Calls Try.prog 37 #[v, .int .i64 (n : Int)] W fun e W' => ∃ v', e = .returned v' ∧ OutAt W1 W' v' (l ++ [hiB n, loB n]) := by
  obtain ⟨i0, hi, hz0, hz1, hz2⟩ := info_parts info8
  have HH := Lib.hid h
  clear h
  go_enter Try.func37, Try.ntmps37
  go_wp2_with (at_builtin; refine wpList_append_own _ rfl _ _ 31 rfl W1.heap.size 5 i0 (.int .u8 0) 1 1 Try.underlying31 hi hz0 hz1 hz2 rfl (by decide) _ _ _ rfl (HH.out.own.alloc _) ⟨W.heap.size, 0, none⟩ 2 2 [.int .u8 ((n : Int) / 256), .int .u8 ((n : Int) % 256)] rfl rfl ?c1 ?c2 ?c3 ?c4 ?c5 ?_)
  case c1 =>
    intro j u hj
    match j, hj with
    | 0, hj => simp at hj; subst hj; simp [Addr.add]
    | 1, hj => simp at hj; subst hj; simp [Addr.add]
  case c2 => intro u hu; simp at hu; rcases hu with rfl | rfl <;> rfl
  case c3 => unfold maxLen; omega
  case c4 => omega
  case c5 => have := HH.out.low.size; simp; omega
  intro v' w' hown hgrow _
  have HG : Hid (OutAt W1 w' v' (l ++ [hiB n, loB n])) := by
    refine (HH.out.alloc _).grown ?_ hgrow
    have e : (l ++ [hiB n, loB n]).map byteV = l.map byteV ++ [.int .u8 ((n : Int) / 256), .int .u8 ((n : Int) % 256)] := by
      rw [List.map_append]
      congr 1
      show [byteV (hiB n), byteV (loB n)] = _
      have h1 : ((hiB n).toNat : Int) = (n : Int) / 256 := by unfold hiB; rw [UInt8.toNat_ofNat']; omega
      have h2 : ((loB n).toNat : Int) = (n : Int) % 256 := by unfold loB; rw [UInt8.toNat_ofNat']; omega
      unfold byteV
      rw [h1, h2]
    rw [e, List.length_append]
    exact hown
  clear hown hgrow
  go_wp2
  go_ret
  exact ⟨v', rfl, HG.out⟩
end Go.Proofs.Ytkgfjapflpjdbaa
