/-
  What bytes written in a base, one by one with points between, and as a range, are read as: plain facts. No conditions.
-/
import Derived.Test.YtciabhboiomehaaDoorCatQ
import Derived.Test.YtciabhboiomehaaDoorVaD
namespace Go.Proofs.YtciabhboiomehaaDoor
open Go.RowKit

theorem vaByteZ_drop (l : List UInt8) (a k : Nat) : byteZ (l.drop a) k = byteZ l (a + k) := by
  unfold byteZ
  rw [List.getD_eq_getElem?_getD, List.getD_eq_getElem?_getD, List.getElem?_drop]
theorem vaTokensF_fuel (ln : List UInt8) (st : Nat) : ∀ (f f' p : Nat) (toks : List Tk), ln.length < f + p → ln.length < f' + p → tokensF ln st f p toks = tokensF ln st f' p toks := by
  intro f
  induction f with
  | zero =>
    intro f' p toks h1 h2
    rw [tokensF_end (by omega), tokensF_end (by omega)]
  | succ f ih =>
    intro f' p toks h1 h2
    by_cases hp : ln.length ≤ p
    · rw [tokensF_end hp, tokensF_end hp]
    · obtain ⟨f', rfl⟩ : ∃ g, f' = g + 1 := ⟨f' - 1, by omega⟩
      have hne : ln.drop p ≠ [] := drop_ne (by omega)
      by_cases he : (readP (ln.drop p)).err = 0
      · have hs := ((fits_read _ hne).2.1 he).1
        rw [tokensF_go (by omega) he, tokensF_go (by omega) he]
        exact ih _ _ _ (by omega) (by omega)
      · rw [tokensF_err h1 (by omega) he, tokensF_err h2 (by omega) he]
theorem vaSpanZ_cons_pos (p : Int → Bool) (c : UInt8) (r : List UInt8) (h : p c.toNat = true) : spanZ p (c :: r) = spanZ p r + 1 := by
  rw [spanZ, if_pos h]
  try omega
theorem vaRead_blank (l : List UInt8) (hb : blankZ (byteZ l 0) = true) : readP l = { size := spanZ blankZ l } := by
  unfold readP table
  rw [pick, if_pos hb]
theorem vaTok_blank (ln : List UInt8) (st f f' p : Nat) (toks : List Tk) (hp : p < ln.length) (hb : blankZ (byteZ ln p) = true) (h1 : ln.length < f + p) (h2 : ln.length < f' + (p + 1)) :
    tokensF ln st f p toks = tokensF ln st f' (p + 1) toks := by
  obtain ⟨c, hc, hcb⟩ := drop_byte ln p hp
  have hb0 : blankZ (byteZ (ln.drop p) 0) = true := by rw [vaByteZ_drop]; exact hb
  have hcb' : blankZ c.toNat = true := by rw [hcb]; exact hb
  obtain ⟨f, rfl⟩ : ∃ g, f = g + 1 := ⟨f - 1, by omega⟩
  have hr := vaRead_blank _ hb0
  rw [tokensF_go hp (by rw [hr]), hr]
  simp only [ne_eq, not_true_eq_false, if_false]
  rw [hc, vaSpanZ_cons_pos _ _ _ hcb']
  by_cases hp1 : p + 1 < ln.length
  · cases hb1 : blankZ (byteZ ln (p + 1)) with
    | true =>
      obtain ⟨f', rfl⟩ : ∃ g, f' = g + 1 := ⟨f' - 1, by omega⟩
      have hr1 := vaRead_blank (ln.drop (p + 1)) (by rw [vaByteZ_drop]; exact hb1)
      have hs1 : 1 ≤ spanZ blankZ (ln.drop (p + 1)) := spanZ_pos _ _ (drop_ne hp1) (by rw [vaByteZ_drop]; exact hb1)
      rw [tokensF_go hp1 (by rw [hr1]), hr1]
      simp only [ne_eq, not_true_eq_false, if_false]
      rw [show p + (spanZ blankZ (ln.drop (p + 1)) + 1) = p + 1 + spanZ blankZ (ln.drop (p + 1)) from by omega]
      exact vaTokensF_fuel _ _ _ _ _ _ (by omega) (by omega)
    | false =>
      have : spanZ blankZ (ln.drop (p + 1)) = 0 := spanZ_stop blankZ _ 0 (Nat.zero_le _) (by rw [List.length_drop]; omega) (by rw [vaByteZ_drop]; exact hb1)
      rw [this]
      exact vaTokensF_fuel _ _ _ _ _ _ (by omega) (by omega)
  · rw [tokensF_end (by omega), tokensF_end (by omega)]
theorem vaLine_letter (ln : List UInt8) (k : Nat) (toks : List Tk) (o : Bool) (hi : idleB ln = false) (hl : letterZ (byteZ ln 0) = true) :
    lineP ln k toks o = ⟨(tokensP ln k (if o = true then toks ++ [endTok k] else toks)).1, true, (tokensP ln k (if o = true then toks ++ [endTok k] else toks)).2.1, (tokensP ln k (if o = true then toks ++ [endTok k] else toks)).2.2⟩ := by
  rw [lineP, if_neg (by simp [hi]), if_pos hl]
theorem vaIdle_cons (c : UInt8) (r : List UInt8) : idleB (c :: r) = ((c.toNat : Int) == 59 || (blankZ c.toNat && idleB r)) := by
  unfold idleB
  rw [spanZ]
  by_cases hb : blankZ c.toNat = true
  · rw [if_pos hb, hb]
    have h59 : ((c.toNat : Int) == 59) = false := by
      rw [beq_eq_false_iff_ne]
      intro e
      rw [e] at hb
      revert hb
      decide
    have hby : byteZ (c :: r) (spanZ blankZ r + 1) = byteZ r (spanZ blankZ r) := rfl
    rw [h59, hby]
    simp
  · rw [if_neg hb]
    have hby : byteZ (c :: r) 0 = c.toNat := rfl
    rw [hby]
    simp [hb]
/-- a text that stops a span -/
def VaStops (p : Int → Bool) (y : List UInt8) : Prop := y = [] ∨ ∃ c r, y = c :: r ∧ p c.toNat = false
theorem va_span (p : Int → Bool) : ∀ (a y : List UInt8), (∀ c ∈ a, p c.toNat = true) → VaStops p y → spanZ p (a ++ y) = a.length := by
  intro a
  induction a with
  | nil =>
    intro y _ hy
    rcases hy with rfl | ⟨c, r, rfl, hc⟩
    · rfl
    · rw [List.nil_append, spanZ, if_neg (by rw [hc]; exact Bool.false_ne_true)]
      rfl
  | cons c r ih =>
    intro y ha hy
    rw [List.cons_append, spanZ, if_pos (ha c (by simp)), ih y (fun d hd => ha d (by simp [hd])) hy]
    rfl
theorem va_stands (pre : List UInt8) (c : UInt8) (r : List UInt8) (b : Int) : standsB (pre ++ c :: r) pre.length b = ((c.toNat : Int) == b) := by
  unfold standsB byteZ
  rw [List.getD_eq_getElem?_getD, List.getElem?_append_right (Nat.le_refl _), Nat.sub_self]
  simp

/-! ### digits -/
def upC (c : UInt8) : UInt8 := if 97 ≤ c.toNat ∧ c.toNat ≤ 122 then UInt8.ofNat (c.toNat - 32) else c
def grC (great : Bool) (c : UInt8) : UInt8 := if great = true then upC c else c
/-- a way to write bytes that is read in a base -/
def EncOk (base : Int) (D : UInt8 → List UInt8) : Prop := ∀ b : UInt8, ((∀ c ∈ D b, digitBelow base c.toNat = true) ∧ numberZ base (D b) = b.toNat ∧ 1 ≤ (D b).length ∧ (D b).length ≤ 8) ∧ ∀ c ∈ D b, c ≠ 10
def encD (great : Bool) (base : Nat) (b : UInt8) : List UInt8 := (digsP base b.toNat).map (grC great)
theorem enc16 (great : Bool) : EncOk 16 (encD great 16) := by
  intro b
  cases great
  · exact va_byte (p := fun b => ((∀ c ∈ encD false 16 b, digitBelow 16 c.toNat = true) ∧ numberZ 16 (encD false 16 b) = b.toNat ∧ 1 ≤ (encD false 16 b).length ∧ (encD false 16 b).length ≤ 8) ∧ ∀ c ∈ encD false 16 b, c ≠ 10) (by decide +kernel) b
  · exact va_byte (p := fun b => ((∀ c ∈ encD true 16 b, digitBelow 16 c.toNat = true) ∧ numberZ 16 (encD true 16 b) = b.toNat ∧ 1 ≤ (encD true 16 b).length ∧ (encD true 16 b).length ≤ 8) ∧ ∀ c ∈ encD true 16 b, c ≠ 10) (by decide +kernel) b
theorem enc10 (great : Bool) : EncOk 10 (encD great 10) := by
  intro b
  cases great
  · exact va_byte (p := fun b => ((∀ c ∈ encD false 10 b, digitBelow 10 c.toNat = true) ∧ numberZ 10 (encD false 10 b) = b.toNat ∧ 1 ≤ (encD false 10 b).length ∧ (encD false 10 b).length ≤ 8) ∧ ∀ c ∈ encD false 10 b, c ≠ 10) (by decide +kernel) b
  · exact va_byte (p := fun b => ((∀ c ∈ encD true 10 b, digitBelow 10 c.toNat = true) ∧ numberZ 10 (encD true 10 b) = b.toNat ∧ 1 ≤ (encD true 10 b).length ∧ (encD true 10 b).length ≤ 8) ∧ ∀ c ∈ encD true 10 b, c ≠ 10) (by decide +kernel) b
theorem enc2 (great : Bool) : EncOk 2 (encD great 2) := by
  intro b
  cases great
  · exact va_byte (p := fun b => ((∀ c ∈ encD false 2 b, digitBelow 2 c.toNat = true) ∧ numberZ 2 (encD false 2 b) = b.toNat ∧ 1 ≤ (encD false 2 b).length ∧ (encD false 2 b).length ≤ 8) ∧ ∀ c ∈ encD false 2 b, c ≠ 10) (by decide +kernel) b
  · exact va_byte (p := fun b => ((∀ c ∈ encD true 2 b, digitBelow 2 c.toNat = true) ∧ numberZ 2 (encD true 2 b) = b.toNat ∧ 1 ≤ (encD true 2 b).length ∧ (encD true 2 b).length ≤ 8) ∧ ∀ c ∈ encD true 2 b, c ≠ 10) (by decide +kernel) b
theorem pad16 (great : Bool) : EncOk 16 (fun b => 48 :: encD great 16 b) := by
  intro b
  cases great
  · exact va_byte (p := fun b => ((∀ c ∈ 48 :: encD false 16 b, digitBelow 16 c.toNat = true) ∧ numberZ 16 (48 :: encD false 16 b) = b.toNat ∧ 1 ≤ (48 :: encD false 16 b).length ∧ (48 :: encD false 16 b).length ≤ 8) ∧ ∀ c ∈ 48 :: encD false 16 b, c ≠ 10) (by decide +kernel) b
  · exact va_byte (p := fun b => ((∀ c ∈ 48 :: encD true 16 b, digitBelow 16 c.toNat = true) ∧ numberZ 16 (48 :: encD true 16 b) = b.toNat ∧ 1 ≤ (48 :: encD true 16 b).length ∧ (48 :: encD true 16 b).length ≤ 8) ∧ ∀ c ∈ 48 :: encD true 16 b, c ≠ 10) (by decide +kernel) b
theorem pad10 (great : Bool) : EncOk 10 (fun b => 48 :: encD great 10 b) := by
  intro b
  cases great
  · exact va_byte (p := fun b => ((∀ c ∈ 48 :: encD false 10 b, digitBelow 10 c.toNat = true) ∧ numberZ 10 (48 :: encD false 10 b) = b.toNat ∧ 1 ≤ (48 :: encD false 10 b).length ∧ (48 :: encD false 10 b).length ≤ 8) ∧ ∀ c ∈ 48 :: encD false 10 b, c ≠ 10) (by decide +kernel) b
  · exact va_byte (p := fun b => ((∀ c ∈ 48 :: encD true 10 b, digitBelow 10 c.toNat = true) ∧ numberZ 10 (48 :: encD true 10 b) = b.toNat ∧ 1 ≤ (48 :: encD true 10 b).length ∧ (48 :: encD true 10 b).length ≤ 8) ∧ ∀ c ∈ 48 :: encD true 10 b, c ≠ 10) (by decide +kernel) b

/-! ### values -/
theorem va_value {base : Int} {D : UInt8 → List UInt8} (h : EncOk base D) (pre z : List UInt8) (x : UInt8) (hz : VaStops (digitBelow base) z) : valueZ (pre ++ D x ++ z) pre.length base = some ((x.toNat : Int), pre.length + (D x).length) := by
  obtain ⟨⟨h1, h2, h3, h4⟩, -⟩ := h x
  have hd : (pre ++ D x ++ z).drop pre.length = D x ++ z := by rw [List.append_assoc, List.drop_left]
  have hsp : spanZ (digitBelow base) (D x ++ z) = (D x).length := va_span _ _ _ h1 hz
  have ht : (D x ++ z).take (D x).length = D x := List.take_left
  have hx := x.toNat_lt
  unfold valueZ
  rw [hd, hsp, ht, h2, if_neg (by simp), if_neg (by omega), if_neg (by omega)]
/-- bytes with a point ahead of each -/
def dotsP (D : UInt8 → List UInt8) : List UInt8 → List UInt8
  | [] => []
  | x :: r => 46 :: (D x ++ dotsP D r)
theorem va_more {base : Int} {D : UInt8 → List UInt8} (h : EncOk base D) (h46 : digitBelow base 46 = false) (h32 : digitBelow base 32 = false) (y : List UInt8) : ∀ (r pre : List UInt8) (f : Nat) (nums : List Int), (pre ++ dotsP D r ++ 32 :: y).length < f + pre.length →
    moreVals (pre ++ dotsP D r ++ 32 :: y) base f pre.length nums = some (nums ++ r.map (fun x => (x.toNat : Int)), pre.length + (dotsP D r).length) := by
  intro r
  induction r with
  | nil =>
    intro pre f nums hf
    obtain ⟨f, rfl⟩ : ∃ g, f = g + 1 := ⟨f - 1, by simp [dotsP] at hf; omega⟩
    have hs : standsB (pre ++ dotsP D [] ++ 32 :: y) pre.length 46 = false := by
      rw [show dotsP D [] = [] from rfl, List.append_nil, va_stands]
      rfl
    rw [moreVals, if_neg (by rw [hs]; exact Bool.false_ne_true)]
    simp [dotsP]
  | cons x r ih =>
    intro pre f nums hf
    obtain ⟨f, rfl⟩ : ∃ g, f = g + 1 := ⟨f - 1, by simp [dotsP] at hf; omega⟩
    have e : pre ++ dotsP D (x :: r) ++ 32 :: y = (pre ++ [46] ++ D x) ++ dotsP D r ++ 32 :: y := by simp [dotsP]
    have e1 : pre ++ dotsP D (x :: r) ++ 32 :: y = pre ++ 46 :: (D x ++ dotsP D r ++ 32 :: y) := by simp [dotsP]
    have hs : standsB (pre ++ dotsP D (x :: r) ++ 32 :: y) pre.length 46 = true := by rw [e1, va_stands]; rfl
    have hst : VaStops (digitBelow base) (dotsP D r ++ 32 :: y) := by
      cases r with
      | nil => exact .inr ⟨32, y, rfl, h32⟩
      | cons z r => exact .inr ⟨46, D z ++ dotsP D r ++ 32 :: y, by simp [dotsP], h46⟩
    have hv : valueZ (pre ++ dotsP D (x :: r) ++ 32 :: y) (pre.length + 1) base = some ((x.toNat : Int), pre.length + 1 + (D x).length) := by
      have := va_value h (pre ++ [46]) (dotsP D r ++ 32 :: y) x hst
      rw [show (pre ++ [46] : List UInt8).length = pre.length + 1 from by simp] at this
      rw [show pre ++ dotsP D (x :: r) ++ 32 :: y = pre ++ [46] ++ D x ++ (dotsP D r ++ 32 :: y) from by simp [dotsP]]
      exact this
    rw [moreVals, if_pos hs, hv]
    simp only
    have hl : (pre ++ [46] ++ D x).length = pre.length + 1 + (D x).length := by simp; omega
    rw [← hl, e, ih (pre ++ [46] ++ D x) f (nums ++ [(x.toNat : Int)]) (by rw [← e]; omega)]
    simp [dotsP]
    omega
theorem va_nums (l : List UInt8) : numsText (l.map fun x => (x.toNat : Int)) = l := by
  unfold numsText
  rw [List.map_map]
  conv => rhs; rw [← List.map_id l]
  apply List.map_congr_left
  intro x _
  simp
theorem va_read37 (r : List UInt8) : readP (37 :: r) = valuesP (37 :: r) := rfl
theorem va_bytes {base : Int} {D : UInt8 → List UInt8} (h : EncOk base D) (h46 : digitBelow base 46 = false) (h32 : digitBelow base 32 = false) (sg : UInt8) (hsg : ∀ r, baseZ (37 :: sg :: r) = base) (x : UInt8) (r y : List UInt8) :
    readP ([37, sg] ++ D x ++ dotsP D r ++ 32 :: y) = { tok := { kind := 11, text := x :: r }, size := ([37, sg] ++ D x ++ dotsP D r).length } := by
  have e2 : [37, sg] ++ D x ++ dotsP D r ++ 32 :: y = 37 :: sg :: (D x ++ (dotsP D r ++ 32 :: y)) := by simp
  have hst : VaStops (digitBelow base) (dotsP D r ++ 32 :: y) := by
    cases r with
    | nil => exact .inr ⟨32, y, rfl, h32⟩
    | cons z r => exact .inr ⟨46, D z ++ dotsP D r ++ 32 :: y, by simp [dotsP], h46⟩
  have hv : valueZ ([37, sg] ++ D x ++ dotsP D r ++ 32 :: y) 2 base = some ((x.toNat : Int), 2 + (D x).length) := by
    rw [show [37, sg] ++ D x ++ dotsP D r ++ 32 :: y = [37, sg] ++ D x ++ (dotsP D r ++ 32 :: y) from by simp]
    exact va_value h [37, sg] (dotsP D r ++ 32 :: y) x hst
  have hlen : ([37, sg] ++ D x : List UInt8).length = 2 + (D x).length := by simp; omega
  have hs : standsB ([37, sg] ++ D x ++ dotsP D r ++ 32 :: y) (2 + (D x).length) 45 = false := by
    rw [← hlen]
    cases r with
    | nil =>
      rw [show dotsP D [] = [] from rfl, List.append_nil, va_stands]
      rfl
    | cons z r =>
      rw [show [37, sg] ++ D x ++ dotsP D (z :: r) ++ 32 :: y = ([37, sg] ++ D x) ++ 46 :: (D z ++ dotsP D r ++ 32 :: y) from by simp [dotsP], va_stands]
      rfl
  have hm := va_more h h46 h32 y r ([37, sg] ++ D x) (([37, sg] ++ D x ++ dotsP D r ++ 32 :: y).length + 1) [(x.toNat : Int)] (by omega)
  rw [hlen] at hm
  have hb : baseZ ([37, sg] ++ D x ++ dotsP D r ++ 32 :: y) = base := by rw [e2]; exact hsg _
  have hrd : readP ([37, sg] ++ D x ++ dotsP D r ++ 32 :: y) = valuesP ([37, sg] ++ D x ++ dotsP D r ++ 32 :: y) := by rw [e2]; exact va_read37 _
  rw [hrd]
  unfold valuesP
  rw [hb, hv, valuesOf, if_neg (by rw [hs]; exact Bool.false_ne_true), hm]
  show ({ tok := { kind := 11, text := numsText ((x :: r).map fun x => (x.toNat : Int)) }, size := 2 + (D x).length + (dotsP D r).length } : Pc) = _
  rw [va_nums]
  simp
  omega
theorem va_range {base : Int} {D E : UInt8 → List UInt8} (hD : EncOk base D) (hE : EncOk base E) (h45 : digitBelow base 45 = false) (sg : UInt8) (hsg : ∀ r, baseZ (37 :: sg :: r) = base) (a b : UInt8) (hab : a.toNat ≤ b.toNat) :
    readP ([37, sg] ++ D a ++ [45] ++ E b) = { tok := { kind := 12, lo := a.toNat, hi := b.toNat }, size := ([37, sg] ++ D a ++ [45] ++ E b).length } := by
  have e2 : [37, sg] ++ D a ++ [45] ++ E b = 37 :: sg :: (D a ++ [45] ++ E b) := by simp
  have hv : valueZ ([37, sg] ++ D a ++ [45] ++ E b) 2 base = some ((a.toNat : Int), 2 + (D a).length) := by
    rw [show [37, sg] ++ D a ++ [45] ++ E b = [37, sg] ++ D a ++ (45 :: E b) from by simp]
    exact va_value hD [37, sg] (45 :: E b) a (.inr ⟨45, _, rfl, h45⟩)
  have hlen : ([37, sg] ++ D a : List UInt8).length = 2 + (D a).length := by simp; omega
  have hs : standsB ([37, sg] ++ D a ++ [45] ++ E b) (2 + (D a).length) 45 = true := by
    rw [← hlen, show [37, sg] ++ D a ++ [45] ++ E b = ([37, sg] ++ D a) ++ 45 :: E b from by simp, va_stands]
    rfl
  have hv2 : valueZ ([37, sg] ++ D a ++ [45] ++ E b) (2 + (D a).length + 1) base = some ((b.toNat : Int), 2 + (D a).length + 1 + (E b).length) := by
    have := va_value hE ([37, sg] ++ D a ++ [45]) [] b (.inl rfl)
    rw [show ([37, sg] ++ D a ++ [45] : List UInt8).length = 2 + (D a).length + 1 from by simp; omega, List.append_nil] at this
    exact this
  have hb : baseZ ([37, sg] ++ D a ++ [45] ++ E b) = base := by rw [e2]; exact hsg _
  have hrd : readP ([37, sg] ++ D a ++ [45] ++ E b) = valuesP ([37, sg] ++ D a ++ [45] ++ E b) := by rw [e2]; exact va_read37 _
  rw [hrd]
  unfold valuesP
  rw [hb, hv, valuesOf, if_pos hs, hv2, rangeOf, if_neg (by omega)]
  simp
  omega

/-! ### the line -/
theorem va_next {ln : List UInt8} {f p q : Nat} {toks : List Tk} (t x : List UInt8) (tk : Tk) (hd : ln.drop p = t ++ x) (hr : readP (t ++ x) = { tok := tk, size := t.length }) (hk : tk.kind ≠ 0) (ht : 0 < t.length) (hf : ln.length < f + p) (hq : q = p + t.length) :
    tokensF ln 0 f p toks = tokensF ln 0 (ln.length + 1) q (toks ++ [{ tk with place := (p : Int) }]) := by
  have hp : p < ln.length := by
    have := congrArg List.length hd
    rw [List.length_drop, List.length_append] at this
    omega
  obtain ⟨f, rfl⟩ : ∃ g, f = g + 1 := ⟨f - 1, by omega⟩
  rw [tokensF_go hp (by rw [hd, hr]), hd, hr]
  simp only [ne_eq, hk, not_false_eq_true, if_true]
  rw [hq, show (((0 : Nat) : Int) + (p : Int)) = (p : Int) from by omega]
  exact vaTokensF_fuel _ _ _ _ _ _ (by omega) (by omega)
theorem va_blank {ln : List UInt8} {f p : Nat} {toks : List Tk} (hp : p < ln.length) (hb : byteZ ln p = 32) (hf : ln.length < f + p) : tokensF ln 0 f p toks = tokensF ln 0 (ln.length + 1) (p + 1) toks :=
  vaTok_blank ln 0 f _ p toks hp (by rw [hb]; rfl) hf (by omega)
theorem index_no10 : ∀ l : List UInt8, (∀ c ∈ l, c ≠ 10) → Lib.indexByte l 10 < 0 := by
  intro l
  induction l with
  | nil => intro _; simp [Lib.indexByte]
  | cons c r ih =>
    intro h
    have h1 := h c (by simp)
    have h2 := ih fun d hd => h d (by simp [hd])
    have hb := indexByte_bd r 10
    have h3 : Lib.indexByte r 10 = -1 := by omega
    simp [Lib.indexByte, h1, h3]
theorem cut_one (l : List UInt8) (h : ∀ c ∈ l, c ≠ 10) : cutP l 0 = (l, l.length) := by
  unfold cutP
  rw [List.drop_zero, if_pos (index_no10 l h)]
/-- a line of one rule's, alone -/
theorem lex_line (ln : List UInt8) (toks : List Tk) (hl : ln.length ≤ 65536) (hne : 0 < ln.length) (h10 : ∀ c ∈ ln, c ≠ 10) (hi : idleB ln = false) (hlet : letterZ (byteZ ln 0) = true) (ht : tokensP ln 0 [] = (toks, 0, 0)) :
    lexP ln = (toks ++ [endTok ln.length], 0, 0) := by
  have hln := vaLine_letter ln 0 [] false hi hlet
  rw [if_neg (by simp), ht] at hln
  rw [lexP_run ln hl, run_step hne, cut_one ln h10, hln, if_neg (by simp), run_end (Nat.le_refl _)]
  rfl
def VaText (nm sg : UInt8) (D E : UInt8 → List UInt8) (x : UInt8) (r : List UInt8) (lo hi : UInt8) : List UInt8 := [nm, 32, 61, 32] ++ ([37, sg] ++ D x ++ dotsP D r) ++ 32 :: ([37, sg] ++ E lo ++ [45] ++ D hi)
theorem dots_len {base : Int} {D : UInt8 → List UInt8} (h : EncOk base D) (r : List UInt8) : (dotsP D r).length ≤ 9 * r.length := by
  induction r with
  | nil => exact Nat.zero_le _
  | cons x r ih =>
    have := (h x).1.2.2.2
    simp only [dotsP, List.length_cons, List.length_append]
    omega
theorem dots_no10 {base : Int} {D : UInt8 → List UInt8} (h : EncOk base D) (r : List UInt8) : ∀ c ∈ dotsP D r, c ≠ 10 := by
  induction r with
  | nil => intro c hc; cases hc
  | cons x r ih =>
    intro c hc
    simp only [dotsP, List.mem_cons, List.mem_append] at hc
    rcases hc with rfl | hc | hc
    · decide
    · exact (h x).2 c hc
    · exact ih c hc
theorem va_lex {base : Int} {D E : UInt8 → List UInt8} (hD : EncOk base D) (hE : EncOk base E) (h46 : digitBelow base 46 = false) (h45 : digitBelow base 45 = false) (h32 : digitBelow base 32 = false) (nm sg : UInt8) (hnm : nm = 114 ∨ nm = 82) (hs10 : sg ≠ 10) (hsg : ∀ r, baseZ (37 :: sg :: r) = base)
    (x : UInt8) (r : List UInt8) (lo hi : UInt8) (hlo : lo.toNat ≤ hi.toNat) (hr : r.length ≤ 19) :
    lexP (VaText nm sg D E x r lo hi) = ([{ kind := 1, text := [nm] }, { kind := 2, place := 2 }, { kind := 11, place := 4, text := x :: r }, { kind := 12, place := 5 + (([37, sg] ++ D x ++ dotsP D r).length : Nat), lo := lo.toNat, hi := hi.toNat }, endTok (VaText nm sg D E x r lo hi).length], 0, 0) := by
  have hrow := va_bytes hD h46 h32 sg hsg x r ([37, sg] ++ E lo ++ [45] ++ D hi)
  have hrng := va_range hE hD h45 sg hsg lo hi hlo
  have hx := (hD x).1.2.2.2
  have hdl := dots_len hD r
  have h1 := (hE lo).1.2.2.2
  have h2 := (hD hi).1.2.2.2
  have n1 := (hD x).2
  have n2 := dots_no10 hD r
  have n3 := (hE lo).2
  have n4 := (hD hi).2
  have hrl : ([37, sg] ++ D x ++ dotsP D r).length ≤ 200 := by simp; omega
  have n5 : ∀ c ∈ [37, sg] ++ D x ++ dotsP D r, c ≠ 10 := by
    intro c hc
    simp only [List.mem_append, List.mem_cons, List.not_mem_nil, or_false] at hc
    rcases hc with ((rfl | rfl) | hc) | hc
    · decide
    · exact hs10
    · exact n1 c hc
    · exact n2 c hc
  have n6 : ∀ c ∈ [37, sg] ++ E lo ++ [45] ++ D hi, c ≠ 10 := by
    intro c hc
    simp only [List.mem_append, List.mem_cons, List.not_mem_nil, or_false] at hc
    rcases hc with (((rfl | rfl) | hc) | rfl) | hc
    · decide
    · exact hs10
    · exact n3 c hc
    · decide
    · exact n4 c hc
  have hgl : ([37, sg] ++ E lo ++ [45] ++ D hi).length ≤ 50 := by simp; omega
  have hrp : 0 < ([37, sg] ++ D x ++ dotsP D r).length := by simp
  have hgp : 0 < ([37, sg] ++ E lo ++ [45] ++ D hi).length := by simp
  unfold VaText
  generalize [37, sg] ++ D x ++ dotsP D r = row at *
  generalize [37, sg] ++ E lo ++ [45] ++ D hi = rng at *
  have hll : ([nm, 32, 61, 32] ++ row ++ 32 :: rng).length = 5 + row.length + rng.length := by simp; omega
  have hby : byteZ ([nm, 32, 61, 32] ++ row ++ 32 :: rng) (4 + row.length) = 32 := by
    unfold byteZ
    rw [show [nm, 32, 61, 32] ++ row ++ 32 :: rng = ([nm, 32, 61, 32] ++ row) ++ 32 :: rng from rfl, List.getD_eq_getElem?_getD, List.getElem?_append_right (by simp; omega)]
    simp
    rw [show row.length + 4 = 4 + row.length from by omega]
    simp
  have hd4 : ([nm, 32, 61, 32] ++ row ++ 32 :: rng).drop 4 = row ++ 32 :: rng := rfl
  have hd5 : ([nm, 32, 61, 32] ++ row ++ 32 :: rng).drop (5 + row.length) = rng ++ [] := by
    rw [show 5 + row.length = 4 + (row.length + 1) from by omega, ← List.drop_drop, hd4, ← List.drop_drop, List.drop_left, List.append_nil]
    rfl
  have hlet : letterZ (byteZ ([nm, 32, 61, 32] ++ row ++ 32 :: rng) 0) = true := by
    show letterZ (nm.toNat : Int) = true
    rcases hnm with rfl | rfl <;> decide
  have hidle : idleB ([nm, 32, 61, 32] ++ row ++ 32 :: rng) = false := by
    show idleB (nm :: ([32, 61, 32] ++ row ++ 32 :: rng)) = false
    rw [vaIdle_cons]
    rcases hnm with rfl | rfl <;> rfl
  have hname : readP ([nm] ++ ([32, 61, 32] ++ row ++ 32 :: rng)) = { tok := { kind := 1, text := [nm] }, size := 1 } := by
    show readP ([nm, 32, 61, 32] ++ row ++ 32 :: rng) = _
    rw [read_letter _ (by simp) hlet]
    rcases hnm with rfl | rfl <;> rfl
  have n7 : ∀ c ∈ [nm, 32, 61, 32] ++ row ++ 32 :: rng, c ≠ 10 := by
    intro c hc
    simp only [List.mem_append, List.mem_cons, List.not_mem_nil, or_false] at hc
    rcases hc with ((rfl | rfl | rfl | rfl) | hc) | rfl | hc
    · rcases hnm with rfl | rfl <;> decide
    · decide
    · decide
    · decide
    · exact n5 c hc
    · decide
    · exact n6 c hc
  have hd0 : ([nm, 32, 61, 32] ++ row ++ 32 :: rng).drop 0 = [nm] ++ ([32, 61, 32] ++ row ++ 32 :: rng) := rfl
  have hd2 : ([nm, 32, 61, 32] ++ row ++ 32 :: rng).drop (1 + 1) = [61] ++ ([32] ++ row ++ 32 :: rng) := rfl
  have hb1 : byteZ ([nm, 32, 61, 32] ++ row ++ 32 :: rng) 1 = 32 := rfl
  have hb3 : byteZ ([nm, 32, 61, 32] ++ row ++ 32 :: rng) 3 = 32 := rfl
  generalize [nm, 32, 61, 32] ++ row ++ 32 :: rng = LN at *
  refine lex_line _ [_, _, _, _] (by omega) (by omega) n7 hidle hlet ?_
  unfold tokensP
  rw [va_next (p := 0) (q := 1) [nm] ([32, 61, 32] ++ row ++ 32 :: rng) { kind := 1, text := [nm] } hd0 hname (by simp) (by simp) (by omega) rfl,
    va_blank (p := 1) (by omega) hb1 (by omega),
    va_next (p := 1 + 1) (q := 3) [61] ([32] ++ row ++ 32 :: rng) { kind := 2 } hd2 rfl (by simp) (by simp) (by omega) rfl,
    va_blank (p := 3) (by omega) hb3 (by omega),
    va_next (p := 3 + 1) (q := 4 + row.length) row (32 :: rng) { kind := 11, text := x :: r } hd4 hrow (by simp) hrp (by omega) rfl,
    va_blank (p := 4 + row.length) (by omega) hby (by omega),
    va_next (p := 4 + row.length + 1) (q := 5 + row.length + rng.length) rng [] { kind := 12, lo := lo.toNat, hi := hi.toNat } (by rw [show 4 + row.length + 1 = 5 + row.length from by omega]; exact hd5) (by rw [List.append_nil]; exact hrng) (by simp) hgp (by omega) (by omega),
    tokensF_end (by omega)]
  simp
  omega
end Go.Proofs.YtciabhboiomehaaDoor
