/-
  What LexValues' walk keeps in memory: the bytes handed in, the base of the round, the library's tables; and the contract of its closure. Conditions: as told.
-/
import Derived.Test.YtciabhboiomehaaDoorVaG
import Derived.Test.YtciabhboiomehaaDoorVaP
import Derived.Test.YtciabhboiomehaaDoorLowT
import Derived.Test.YtciabhboiomehaaDoorAwake
import Derived.Test.YtciabhboiomehaaDoorBelowPost
import Derived.Deep.RegionHeld3
import Derived.BigRegion
import Derived.Lib.Case
namespace Go.Proofs.YtciabhboiomehaaDoor
open Go.RowKit

/-- the library's tables -/
structure VaTab (w : World) : Prop where
  pow : Lib.TabIs Tryd.prog w "internal/strconv.uint64pow10" .u64 Lib.pow10Tab
  tz : TzAt w
  hi : 7 ≤ w.heap.size
theorem VaTab.below {w w' : World} {B : Nat} (h : VaTab w) (hb : Below B w w') (hB : 7 ≤ B) : VaTab w' := by
  refine ⟨?_, ?_, by have := hb.size; have := h.hi; omega⟩
  · have hp := h.pow
    unfold Lib.TabIs World.var? at *
    rw [show Tryd.prog.globalNamed "internal/strconv.uint64pow10" = some 0 from by kernel_rfl] at *
    simp only [Option.bind_some] at *
    rw [hb.block _ (by omega)]
    exact hp
  · exact ⟨(hb.cell (p := ⟨6, 15, none⟩) (show 6 < B by omega)).trans h.tz.1, (hb.cell (p := ⟨6, 1, none⟩) (show 6 < B by omega)).trans h.tz.2⟩

/-- the closure -/
theorem of_any (u : UInt8) (base : Nat) (hbase : base = 16 ∨ base = 10 ∨ base = 2) (B : Nat) (w : World) (hc : w.cell? ⟨B, 2, none⟩ = some (.int .i64 base)) (h : VaTab w) :
    Calls Tryd.prog 5 #[.int .u8 u.toNat, .pointer (some ⟨B, 0, none⟩)] w fun e w' => e = .returned (.string (bs (digsP base u.toNat))) ∧ Below w.heap.size w w' := by
  have hu := u.toNat_lt
  have hf := fmt_any base hbase u.toNat hu w h.pow h.tz (by have := h.hi; omega)
  have HF := Lib.hid hf
  clear hf hbase
  generalize u.toNat = n at *
  go_enter Tryd.func5, Tryd.ntmps5
  go_wp2_with (go_at_call 6; refine HF.out.mono ?_; rintro e w' ⟨rfl, hb⟩)
  go_ret
  exact ⟨rfl, hb⟩

/-- what lies in memory in a round: the bytes at g, off; the base's fields at B -/
structure VaMem (W0 W : World) (g off : Nat) (l : List UInt8) (B : Nat) (sg pad : List UInt8) (base : Nat) : Prop where
  low : Below W0.heap.size W0 W
  lt : B < W.heap.size
  glt : g < W.heap.size
  c0 : W.cell? ⟨B, 0, none⟩ = some (.string (bs sg))
  c1 : W.cell? ⟨B, 1, none⟩ = some (.string (bs pad))
  c2 : W.cell? ⟨B, 2, none⟩ = some (.int .i64 base)
  row : ∀ j, (h : j < l.length) → W.cell? ⟨g, off + j, none⟩ = some (.int .u8 ((l[j]'h).toNat : Int))
  tab : VaTab W
theorem VaMem.below {W0 W W' : World} {g off : Nat} {l : List UInt8} {B : Nat} {sg pad : List UInt8} {base : Nat} (h : VaMem W0 W g off l B sg pad base) (hb : Below W.heap.size W W') : VaMem W0 W' g off l B sg pad base := by
  have hs := hb.size
  have h1 := h.lt
  have h2 := h.glt
  exact ⟨h.low.trans (hb.mono h.low.size), by omega, by omega, (hb.cell (p := ⟨B, 0, none⟩) h1).trans h.c0, (hb.cell (p := ⟨B, 1, none⟩) h1).trans h.c1, (hb.cell (p := ⟨B, 2, none⟩) h1).trans h.c2,
    fun j hj => (hb.cell (p := ⟨g, off + j, none⟩) h2).trans (h.row j hj), h.tab.below hb h.tab.hi⟩
theorem VaMem.drew {W0 W : World} {g off : Nat} {l : List UInt8} {B : Nat} {sg pad : List UInt8} {base : Nat} (h : VaMem W0 W g off l B sg pad base) : VaMem W0 W.drew g off l B sg pad base := h.below (Below.refl _ _).drew
theorem VaMem.first {W0 W : World} {g off : Nat} {x : UInt8} {r : List UInt8} {B : Nat} {sg pad : List UInt8} {base : Nat} (h : VaMem W0 W g off (x :: r) B sg pad base) : W.cell? ⟨g, off, none⟩ = some (.int .u8 (x.toNat : Int)) := h.row 0 (by simp)

/-! ### upper letters -/
theorem up_same (c : UInt8) : Lib.upperB c = upC c := va_byte (p := fun c => Lib.upperB c = upC c) (by decide +kernel) c
theorem toUpper_map (l : List UInt8) : Lib.toUpperA l = l.map upC := by
  have : (fun c => Lib.upperB c) = upC := funext up_same
  unfold Lib.toUpperA
  rw [show Lib.upperB = upC from this]

/-! ### the bases -/
def VaBase (sg : UInt8) (pad : List UInt8) (base : Nat) : Prop := (sg = 120 ∧ pad = [48] ∧ base = 16) ∨ (sg = 100 ∧ pad = [48] ∧ base = 10) ∨ (sg = 98 ∧ pad = [] ∧ base = 2)
theorem VaBase.three {sg : UInt8} {pad : List UInt8} {base : Nat} (h : VaBase sg pad base) : base = 16 ∨ base = 10 ∨ base = 2 := by
  rcases h with ⟨_, _, h⟩ | ⟨_, _, h⟩ | ⟨_, _, h⟩
  · exact .inl h
  · exact .inr (.inl h)
  · exact .inr (.inr h)
/-- a base's text, as it is written -/
def vaRow (sg : UInt8) (base : Nat) (x : UInt8) (r : List UInt8) : List UInt8 := [37, sg] ++ digsP base x.toNat ++ dotsP (fun b => digsP base b.toNat) r
def vaText (sg : UInt8) (pad : List UInt8) (base : Nat) (x : UInt8) (r : List UInt8) (lo hi : UInt8) : List UInt8 := [114, 32, 61, 32] ++ vaRow sg base x r ++ [32, 37] ++ [sg] ++ pad ++ digsP base lo.toNat ++ [45] ++ digsP base hi.toNat
theorem dots_map (f : UInt8 → UInt8) (hf : f 46 = 46) (D : UInt8 → List UInt8) (r : List UInt8) : (dotsP D r).map f = dotsP (fun b => (D b).map f) r := by
  induction r with
  | nil => rfl
  | cons x r ih => simp [dotsP, ih, hf]
theorem enc_false (base : Nat) : encD false base = fun b => digsP base b.toNat := by
  funext b
  unfold encD
  conv => rhs; rw [← List.map_id (digsP base b.toNat)]
  rfl
theorem enc_true (base : Nat) : encD true base = fun b => (digsP base b.toNat).map upC := by
  funext b
  unfold encD
  congr 1
/-- what such a text is read as -/
theorem va_read (sg : UInt8) (pad : List UInt8) (base : Nat) (hb : VaBase sg pad base) (great : Bool) (x : UInt8) (r : List UInt8) (lo hi : UInt8) (hlo : lo.toNat ≤ hi.toNat) (hr : r.length ≤ 19) :
    ∃ t0 t1 t4, lexP ((vaText sg pad base x r lo hi).map (grC great)) = ([t0, t1, { kind := 11, place := 4, text := x :: r }, { kind := 12, place := 5 + ((vaRow sg base x r).length : Nat), lo := lo.toNat, hi := hi.toNat }, t4], 0, 0) := by
  have key : ∀ (D E : UInt8 → List UInt8) (b : Int) (nm s : UInt8), EncOk b D → EncOk b E → digitBelow b 46 = false → digitBelow b 45 = false → digitBelow b 32 = false → (nm = 114 ∨ nm = 82) → s ≠ 10 → (∀ r, baseZ (37 :: s :: r) = b) → (vaText sg pad base x r lo hi).map (grC great) = VaText nm s D E x r lo hi → ([37, s] ++ D x ++ dotsP D r).length = (vaRow sg base x r).length →
      ∃ t0 t1 t4, lexP ((vaText sg pad base x r lo hi).map (grC great)) = ([t0, t1, { kind := 11, place := 4, text := x :: r }, { kind := 12, place := 5 + ((vaRow sg base x r).length : Nat), lo := lo.toNat, hi := hi.toNat }, t4], 0, 0) := by
    intro D E b nm s hD hE h46 h45 h32 hnm hs hsg he hl
    rw [he, va_lex hD hE h46 h45 h32 nm s hnm hs hsg x r lo hi hlo hr, hl]
    exact ⟨_, _, _, rfl⟩
  have hlen : ∀ (D : UInt8 → List UInt8) (f : UInt8 → UInt8), f 46 = 46 → (dotsP (fun b => (D b).map f) r).length = (dotsP D r).length := fun D f hf => by rw [← dots_map f hf, List.length_map]
  cases great with
  | false =>
    have hid : ∀ l : List UInt8, l.map (grC false) = l := fun l => by
      conv => rhs; rw [← List.map_id l]
      rfl
    rw [hid] at key ⊢
    rcases hb with ⟨rfl, rfl, rfl⟩ | ⟨rfl, rfl, rfl⟩ | ⟨rfl, rfl, rfl⟩
    · exact key _ _ 16 114 120 (enc16 false) (pad16 false) (by decide) (by decide) (by decide) (.inl rfl) (by decide) (fun r => by unfold baseZ; rw [if_neg (by simp), if_pos (.inl rfl)]) (by rw [enc_false]; simp [vaText, vaRow, VaText]) (by rw [enc_false]; rfl)
    · exact key _ _ 10 114 100 (enc10 false) (pad10 false) (by decide) (by decide) (by decide) (.inl rfl) (by decide) (fun r => by unfold baseZ; rw [if_neg (by simp), if_neg (by simp [byteZ]), if_pos (.inl rfl)]) (by rw [enc_false]; simp [vaText, vaRow, VaText]) (by rw [enc_false]; rfl)
    · exact key _ _ 2 114 98 (enc2 false) (enc2 false) (by decide) (by decide) (by decide) (.inl rfl) (by decide) (fun r => by unfold baseZ; rw [if_neg (by simp), if_neg (by simp [byteZ]), if_neg (by simp [byteZ]), if_pos (.inl rfl)]) (by rw [enc_false]; simp [vaText, vaRow, VaText]) (by rw [enc_false]; rfl)
  | true =>
    have hup : ∀ l : List UInt8, l.map (grC true) = l.map upC := fun l => rfl
    rw [hup] at key ⊢
    have u46 : upC 46 = 46 := by decide
    rcases hb with ⟨rfl, rfl, rfl⟩ | ⟨rfl, rfl, rfl⟩ | ⟨rfl, rfl, rfl⟩
    · exact key _ _ 16 82 88 (enc16 true) (pad16 true) (by decide) (by decide) (by decide) (.inr rfl) (by decide) (fun r => by unfold baseZ; rw [if_neg (by simp), if_pos (.inr rfl)]) (by rw [enc_true]; simp [vaText, vaRow, VaText, dots_map upC u46]; decide) (by rw [enc_true]; simp [vaRow, hlen _ _ u46])
    · exact key _ _ 10 82 68 (enc10 true) (pad10 true) (by decide) (by decide) (by decide) (.inr rfl) (by decide) (fun r => by unfold baseZ; rw [if_neg (by simp), if_neg (by simp [byteZ]), if_pos (.inr rfl)]) (by rw [enc_true]; simp [vaText, vaRow, VaText, dots_map upC u46]; decide) (by rw [enc_true]; simp [vaRow, hlen _ _ u46])
    · exact key _ _ 2 82 66 (enc2 true) (enc2 true) (by decide) (by decide) (by decide) (.inr rfl) (by decide) (fun r => by unfold baseZ; rw [if_neg (by simp), if_neg (by simp [byteZ]), if_neg (by simp [byteZ]), if_pos (.inr rfl)]) (by rw [enc_true]; simp [vaText, vaRow, VaText, dots_map upC u46]; decide) (by rw [enc_true]; simp [vaRow, hlen _ _ u46])
end Go.Proofs.YtciabhboiomehaaDoor
