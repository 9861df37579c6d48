/-
  The document's way to classes in plain terms: bytes one by one, each beside the first byte of each class. No conditions.
-/
import Derived.Test.YtlaccbkhlkomhaaCtA
import Derived.Test.YtlaccbkhlkomhaaCtR
import Derived.Test.YtlaccbkhlkomhaaCtS
namespace Go.Proofs.Ytlaccbkhlkomhaa
open Go.RowKit

def padB (L : List UInt8) (b : Nat) : List UInt8 := L.take b ++ List.replicate (256 - b) 0
theorem padB_len (L : List UInt8) (b : Nat) (hL : L.length = 256) (hb : b ≤ 256) : (padB L b).length = 256 := by
  unfold padB
  rw [List.length_append, List.length_take, List.length_replicate, hL]
  omega
theorem padB_zero (L : List UInt8) : padB L 0 = cl0 := by unfold padB cl0; rw [List.take_zero, List.nil_append]
theorem padB_end (L : List UInt8) (hL : L.length = 256) : padB L 256 = L := by
  unfold padB
  rw [List.take_of_length_le (by omega), Nat.sub_self, List.replicate_zero, List.append_nil]
theorem padB_set (L : List UInt8) (b : Nat) (hL : L.length = 256) (hb : b < 256) : padB L (b + 1) = (padB L b).set b (L.getD b 0) := by
  unfold padB
  have hl : (L.take b).length = b := by rw [List.length_take]; omega
  rw [List.set_append_right _ _ (by omega), hl, Nat.sub_self, show 256 - b = (256 - (b + 1)) + 1 from by omega, List.replicate_succ, List.set_cons_zero, List.take_succ_eq_append_getElem (by omega), List.append_assoc, List.getD_eq_getElem?_getD, List.getElem?_eq_getElem (by omega)]
  rfl
structure FirstAt (L : List UInt8) (b : Nat) (F : List Nat) : Prop where
  go : clGo (L.take b) 0 = some F.length
  at_ : ∀ c (h : c < F.length), F[c] < 256 ∧ (L.getD F[c] 0).toNat = c
theorem FirstAt.start (L : List UInt8) : FirstAt L 0 [] := ⟨by rw [List.take_zero]; rfl, fun c h => absurd h (Nat.not_lt_zero c)⟩
theorem FirstAt.few {L : List UInt8} {b : Nat} {F : List Nat} (h : FirstAt L b F) : F.length ≤ b := by
  have h1 := clGo_le _ _ _ h.go
  rw [List.length_take] at h1
  omega
section
variable {V : List St} {L : List UInt8} {b : Nat} {F : List Nat}
theorem take_more (h : CP V L) (hb : b < 256) : L.take (b + 1) = L.take b ++ [L.getD b 0] := by
  rw [List.take_succ_eq_append_getElem (by rw [h.len]; exact hb), List.getD_eq_getElem?_getD, List.getElem?_eq_getElem (by rw [h.len]; exact hb)]
  rfl
theorem FirstAt.le (h : CP V L) (hf : FirstAt L b F) (hb : b < 256) : (L.getD b 0).toNat ≤ F.length := by
  by_cases hc : F.length < (L.getD b 0).toNat
  · exfalso
    have h1 := clGo_snoc (L.take b) 0 (L.getD b 0)
    rw [hf.go, ← take_more h hb] at h1
    simp only at h1
    rw [if_pos hc] at h1
    have h2 := clGo_none_take L (b + 1) 0 h1
    rw [h.go] at h2
    cases h2
  · omega
theorem FirstAt.old (h : CP V L) (hf : FirstAt L b F) (hb : b < 256) (hk : (L.getD b 0).toNat < F.length) : FirstAt L (b + 1) F := by
  refine ⟨?_, hf.at_⟩
  rw [take_more h hb, clGo_snoc, hf.go]
  simp only
  rw [if_neg (by omega), if_neg (by omega)]
theorem FirstAt.new (h : CP V L) (hf : FirstAt L b F) (hb : b < 256) (hk : (L.getD b 0).toNat = F.length) : FirstAt L (b + 1) (F ++ [b]) := by
  refine ⟨?_, fun c hc => ?_⟩
  · rw [take_more h hb, clGo_snoc, hf.go]
    simp only
    rw [if_neg (by omega), if_pos hk, List.length_append]
    rfl
  · by_cases h1 : c < F.length
    · rw [List.getElem_append_left h1]
      exact hf.at_ c h1
    · have h2 : c = F.length := by rw [List.length_append, List.length_singleton] at hc; omega
      subst h2
      rw [List.getElem_append_right (Nat.le_refl _)]
      simp only [Nat.sub_self, List.getElem_cons_zero]
      exact ⟨hb, hk⟩
theorem FirstAt.apart (h : CP V L) (hf : FirstAt L b F) (hb : b < 256) (c : Nat) (hc : c < F.length) : agB F[c] b V = decide (c = (L.getD b 0).toNat) := by
  obtain ⟨h1, h2⟩ := hf.at_ c hc
  rw [Bool.eq_iff_iff, agB_iff, ← h.same _ _ h1 hb, decide_eq_true_iff]
  constructor
  · intro e; rw [← e]; exact h2.symm
  · intro e; exact UInt8.toNat_inj.1 (by rw [h2]; exact e)
theorem FirstAt.end_ (h : CP V L) (hf : FirstAt L 256 F) : F.length = manyOf L := by
  have h1 := hf.go
  rw [List.take_of_length_le (by rw [h.len]; exact Nat.le_refl _), h.go] at h1
  injection h1 with h1
  exact h1.symm
end
/-- a row of one's own stays, where a block of another type is written to -/
theorem own_set {W : World} {B z n g : Nat} {e t : TypeId} {v : Value} {x : List Value} {cs : Array Value} (h : W.ownsRow B e z v n x) (hb : Blk W g t cs) (hne : t ≠ e) (i : Nat) (u : Value) : (W.setCell ⟨g, i, none⟩ u).ownsRow B e z v n x :=
  h.kept (row := some g) ⟨rfl, rfl, rfl, by simp [World.setCell], fun k _ hk => heap_setCell_other W ⟨g, i, none⟩ k u (fun e => hk (by rw [e]))⟩ (.inr (fun e => blk_apart h hb hne e.symm))
theorem infoI : (Try.prog.info? 3).map (fun i => (i.zero, i.size, i.bytes)) = some (some (.int .i64 0), 1, 8) := by kernel_rfl
def natV (k : Nat) : Value := .int .i64 (k : Int)
/-- a number behind a row of one's own -/
theorem wpList_app_nat {W : World} {ops : Array Oper} {rest : List Oper} {o : Oper} {a : Act} {Q : Exit → Act → World → Prop} (hgd : o.guard = none) (s x : Operand)
    (ho : o.op = .call { callee := .builtin .append, args := #[s, x], argTypes := #[58, 58] })
    (B : Nat) (v : Value) (F : List Nat) (b : Nat) (hs : a.eval s = v) (hown : W.ownsRow B 3 1 v F.length (F.map natV)) (g : Nat) (hx : a.eval x = .slice (some ⟨g, 0, none⟩) 1 1) (hb : Blk W g 3 #[.int .i64 (b : Int)]) (hl : F.length ≤ 1000000) (hbase : B ≤ W.heap.size)
    (h : ∀ v' w', w'.ownsRow B 3 1 v' (F ++ [b]).length ((F ++ [b]).map natV) → W.grownBy w' v.ownBlock → wpList Try.prog ops Q rest (a.put o.dst v') w') : wpList Try.prog ops Q (o :: rest) a W := by
  obtain ⟨i0, hi0, hz0, hz1, hz2⟩ := info_parts infoI
  refine wpList_append_own _ hgd s x 58 ho B 3 i0 (.int .i64 0) 1 8 Try.underlying58 hi0 hz0 hz1 hz2 rfl (by decide) v F.length (F.map natV) hs hown ⟨g, 0, none⟩ 1 1 [natV b] hx rfl ?_ ?_ (by unfold maxLen; omega) (by omega) hbase (fun v' w' h1 h2 _ => h v' w' ?_ h2)
  · intro j u hj
    rw [Addr.add_lit, Nat.zero_add, hb.cell j]
    simpa [natV] using hj
  · simp [natV, Value.oneCell']
  · rw [List.length_append, List.map_append]
    exact h1
end Go.Proofs.Ytlaccbkhlkomhaa
