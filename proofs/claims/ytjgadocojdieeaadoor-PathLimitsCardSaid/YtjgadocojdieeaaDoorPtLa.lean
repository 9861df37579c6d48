/-
  The texts of frankinglaw15.PathLimits, and what is read of them. No conditions.
-/
import Derived.Test.YtjgadocojdieeaaDoorPtX
import Derived.Test.YtjgadocojdieeaaDoorPtY
import Derived.Lib.Repeat
namespace Go.Proofs.YtjgadocojdieeaaDoor
open Go.RowKit Go.Shelf

def limName (k : Nat) (q : Bool) : List UInt8 := Lib.repeatL (if q then [34] else [97]) (64 + k)
def limText (k : Nat) (q : Bool) : List UInt8 := if q then [34] ++ Lib.repeatL [92, 34] (64 + k) ++ [34] else limName k q
def limLabel : List UInt8 := Lib.repeatL [98] 63
def limLong (k : Nat) : List UInt8 := limLabel ++ [46] ++ limLabel ++ [46] ++ limLabel ++ [46] ++ limLabel ++ Lib.repeatL [46] (min k 1) ++ Lib.repeatL [99] (k - 1)
def limRoute (k : Nat) : List UInt8 := [60, 64, 120] ++ Lib.repeatL [44, 64, 120] (19 + k) ++ [58, 97, 64, 98, 62]
theorem lim_box : ∀ k, k < 4 → ∀ q, mailboxP (limText k q ++ [64, 98]) = if k = 0 then (0, limName k q, [98], false) else (3, [], [], false) := by decide +kernel
theorem lim_label : ∀ k, k < 4 → (dB (limLabel ++ Lib.repeatL [98] k) && !dL (limLabel ++ Lib.repeatL [98] k)) = decide (k = 0) := by decide +kernel
theorem lim_long : ∀ k, k < 4 → (mailboxP ([97, 64] ++ limLong k)).1 = [0, 150, 3, 3].getD k 0 := by decide +kernel
theorem lim_dom : ∀ k, k < 4 → (dB (limLong k) && !dL (limLong k)) = decide (k = 0) := by decide +kernel
theorem lim_route : ∀ k, k < 4 → (parseP (limRoute k)).1 = (if k = 0 then 0 else 3) ∧ (parseP (limRoute k)).2.1.route.length = (if k = 0 then 20 else 0) := by decide +kernel
theorem lim_short : ∀ k, k < 4 → (∀ q, (limText k q).length ≤ 1000 ∧ (limName k q).length ≤ 1000) ∧ (limLong k).length ≤ 1000 ∧ (limRoute k).length ≤ 1000 ∧ (limLabel ++ Lib.repeatL [98] k).length ≤ 1000 := by decide +kernel
end Go.Proofs.YtjgadocojdieeaaDoor
