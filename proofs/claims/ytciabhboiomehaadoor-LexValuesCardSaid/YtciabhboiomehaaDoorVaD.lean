/-
  A byte's digits in a base: plain facts. No conditions.
-/
namespace Go.Proofs.YtciabhboiomehaaDoor

theorem va_byte {p : UInt8 → Prop} (h : ∀ n : Fin 256, p (UInt8.ofNat n.val)) (c : UInt8) : p c := by
  have := h ⟨c.toNat, c.toNat_lt⟩
  rw [UInt8.ofNat_toNat] at this
  exact this
def digC (k : Nat) : UInt8 := if k < 10 then UInt8.ofNat (48 + k) else UInt8.ofNat (87 + k)
def digF (base : Nat) : Nat → Nat → List UInt8
  | 0, _ => []
  | f + 1, u => if u < base then [digC u] else digF base f (u / base) ++ [digC (u % base)]
/-- a byte's digits -/
def digsP (base b : Nat) : List UInt8 := digF base 8 b
theorem digF_last {base f u : Nat} (h : u < base) : digF base (f + 1) u = [digC u] := by rw [digF, if_pos h]
theorem digF_more {base f u : Nat} (h : ¬ u < base) : digF base (f + 1) u = digF base f (u / base) ++ [digC (u % base)] := by rw [digF, if_neg h]
end Go.Proofs.YtciabhboiomehaaDoor
