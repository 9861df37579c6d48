/-
  The contract of frankinglaw10.TableCut. No conditions but that the table and the bytes lie in memory.
-/
import Derived.Test.YtkgfjapflpjdbaaTlYs
import Derived.Test.YtkgfjapflpjdbaaTlYn
import Derived.Test.YtkgfjapflpjdbaaTlYo
import Derived.Test.YtkgfjapflpjdbaaTlZs
import Derived.Test.YtkgfjapflpjdbaaTlZn
import Derived.Test.YtkgfjapflpjdbaaTlZo
import Derived.Test.YtkgfjapflpjdbaaTlMs
import Derived.Test.YtkgfjapflpjdbaaTlMn
import Derived.Test.YtkgfjapflpjdbaaTlMo
namespace Go.Proofs.Ytkgfjapflpjdbaa
open Go.RowKit

theorem tableCut_any (t : Tab) (p : Lie) (X : Array Value) (hX : (tabCells t p).toArray = X) (cut at_ : Nat) (hcut : cut < 65536) (hat : at_ < 65536) (x : UInt8) (ab : Option Addr) (bl : List UInt8) (cb : Nat) (w : World) (h : TabAt w t p) (hb : BytesAt w ab bl) :
    Calls Try.prog 5 #[.agg X, .int .u16 (cut : Int), .int .u16 (at_ : Int), .int .u8 (x.toNat : Int), .slice ab bl.length cb] w fun e w' => e = .returned (.bool true) ∧ Below w.heap.size w w' := by
  cases hf : fewB t with
  | false => exact tableCut_early t p X hX cut at_ x ab bl cb _ rfl w h hb (.inl hf)
  | true =>
    cases hr : tabRightB t with
    | false => exact tableCut_early t p X hX cut at_ x ab bl cb _ rfl w h hb (.inr ⟨hf, hr⟩)
    | true =>
      by_cases hB : (packP t).set (at_ % (packP t).length) x = packP t
      · by_cases h0 : bl.length = 0
        · exact tableCut_zs t p X hX cut at_ hcut hat x ab bl cb _ rfl w h hb hf hr h0 hB
        · by_cases h1 : bl.length ≤ 20
          · exact tableCut_ys t p X hX cut at_ hcut hat x ab bl cb _ rfl w h hb hf hr (by omega) h1 hB
          · exact tableCut_ms t p X hX cut at_ hcut hat x ab bl cb _ rfl w h hb hf hr (by omega) hB
      · cases hC : readB ((packP t).set (at_ % (packP t).length) x) with
        | false =>
          by_cases h0 : bl.length = 0
          · exact tableCut_zn t p X hX cut at_ hcut hat x ab bl cb _ rfl w h hb hf hr h0 hB hC
          · by_cases h1 : bl.length ≤ 20
            · exact tableCut_yn t p X hX cut at_ hcut hat x ab bl cb _ rfl w h hb hf hr (by omega) h1 hB hC
            · exact tableCut_mn t p X hX cut at_ hcut hat x ab bl cb _ rfl w h hb hf hr (by omega) hB hC
        | true =>
          by_cases h0 : bl.length = 0
          · exact tableCut_zo t p X hX cut at_ hcut hat x ab bl cb _ rfl w h hb hf hr h0 hB hC
          · by_cases h1 : bl.length ≤ 20
            · exact tableCut_yo t p X hX cut at_ hcut hat x ab bl cb _ rfl w h hb hf hr (by omega) h1 hB hC
            · exact tableCut_mo t p X hX cut at_ hcut hat x ab bl cb _ rfl w h hb hf hr (by omega) hB hC
end Go.Proofs.Ytkgfjapflpjdbaa
