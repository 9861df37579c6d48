/-
  LexRules answers true for every two texts: its walk. No conditions.
-/
import Derived.Test.YtiicfaohplnapaaCat
namespace Go.Proofs.Ytiicfaohplnapaa
open Go.RowKit

theorem run_err_ne (l : List UInt8) : ∀ (n k : Nat) (toks : List Tk) (o : Bool) (e : Nat × Nat), l.length ≤ n + k → k ≤ l.length → run l k toks o = .inr e → e.2 ≠ 0 := by
  intro n
  induction n with
  | zero =>
    intro k toks o e h hk hr
    rw [run_end (by omega)] at hr
    cases hr
  | succ n ih =>
    intro k toks o e h hk hr
    by_cases he : k = l.length
    · rw [run_end (by omega)] at hr
      cases hr
    · have hcb := cutP_bd l k (by omega)
      rw [run_step (by omega)] at hr
      split at hr
      · rename_i hne
        have := Sum.inr.inj hr
        rw [← this]
        exact hne
      · exact ih _ _ _ e (by omega) (by omega) hr
theorem run_false (l : List UInt8) : ∀ (n k : Nat) (toks : List Tk) (o : Bool) (R : List Tk × Bool), l.length ≤ n + k → k ≤ l.length → (o = false → toks = []) → run l k toks o = .inl R → (R.2 = false → R.1 = []) := by
  intro n
  induction n with
  | zero =>
    intro k toks o R h hk ho hr
    rw [run_end (by omega)] at hr
    have := Sum.inl.inj hr
    rw [← this]
    exact ho
  | succ n ih =>
    intro k toks o R h hk ho hr
    by_cases he : k = l.length
    · rw [run_end (by omega)] at hr
      have := Sum.inl.inj hr
      rw [← this]
      exact ho
    · have hcb := cutP_bd l k (by omega)
      rw [run_step (by omega)] at hr
      split at hr
      · cases hr
      · refine ih _ _ _ R (by omega) (by omega) ?_ hr
        unfold lineP
        split
        · exact ho
        · split
          · intro h; cases h
          · split
            · rename_i hb
              intro h
              simp only at h
              rw [h] at hb
              simp at hb
            · exact ho
theorem lex_ok {l : List UInt8} (h : l.length ≤ 65536) (he : (lexP l).2.2 = 0) : ∃ a o, run l 0 [] false = .inl (a, o) ∧ (lexP l).1 = closed l a o ∧ (o = false → a = []) := by
  rw [lexP_run l h] at he ⊢
  cases hr : run l 0 [] false with
  | inr e =>
    rw [hr] at he
    exact absurd he (run_err_ne l l.length 0 [] false e (by omega) (by omega) hr)
  | inl R =>
    obtain ⟨a, o⟩ := R
    exact ⟨a, o, rfl, rfl, run_false l l.length 0 [] false (a, o) (by omega) (by omega) (fun _ => rfl) hr⟩

theorem bare_end (i j : Nat) : bare (endTok i) = bare (endTok j) := rfl
/-- of a text, a byte 10 and another text the tokens are those of the one, then those of the other, as far behind -/
theorem lex_cat (s t : List UInt8) (hs : s.length ≤ 2000) (ht : t.length ≤ 2000) (h1 : (lexP s).2.2 = 0) (h2 : (lexP t).2.2 = 0) :
    ∃ a', lexP (s ++ [10] ++ t) = (a' ++ (lexP t).1.map (sh (s.length + 1)), 0, 0) ∧ a'.map bare = (lexP s).1.map bare ∧
      ∀ (i : Nat) (x y : Tk), a'[i]? = some x → (lexP s).1[i]? = some y → x.kind ≠ 13 → x.place = y.place := by
  obtain ⟨a, oa, hra, hca, hfa⟩ := lex_ok (by omega) h1
  obtain ⟨b, ob, hrb, hcb, _⟩ := lex_ok (by omega) h2
  have hlen : (s ++ [10]).length = s.length + 1 := by simp
  have hnl := run_nl s s.length 0 [] false (a, oa) (by omega) (by omega) hra
  have hfirst := run_first s t (s.length + 1) 0 [] false (by omega) (by omega)
  rw [hnl] at hfirst
  simp only at hfirst
  have hbeh := fun o => run_behind (s ++ [10]) t a t.length 0 [] o (by omega) (by omega)
  simp only [List.map_nil, List.append_nil, Nat.zero_add, hlen] at hbeh
  rw [lexP_run _ (by rw [List.length_append]; omega), hfirst, hbeh oa, hca, hcb]
  have hcl : ∀ (x : List Tk) (o : Bool), closed (s ++ [10] ++ t) (x.map (sh (s.length + 1))) o = (closed t x o).map (sh (s.length + 1)) := by
    intro x o
    unfold closed
    split
    · rw [List.map_append, List.map_singleton, sh_end, List.length_append, hlen, Nat.add_comm (s.length + 1)]
    · rfl
  have hcl2 : ∀ (y x : List Tk) (o : Bool), closed (s ++ [10] ++ t) (y ++ x) o = y ++ closed (s ++ [10] ++ t) x o := by
    intro y x o
    unfold closed
    split
    · rw [List.append_assoc]
    · rfl
  cases oa with
  | false =>
    have ha := hfa rfl
    subst ha
    rw [hrb]
    refine ⟨[], ?_, by simp [closed], fun i x y hx => by simp at hx⟩
    show (closed _ ([] ++ b.map _) ob, 0, 0) = _
    rw [List.nil_append, List.nil_append, hcl]
  | true =>
    rcases run_opened t t.length 0 b ob (by omega) (by omega) hrb with ⟨hob, hb, hr⟩ | ⟨hob, q, hr⟩
    · subst hob; subst hb
      rw [hr]
      refine ⟨a ++ [endTok (s ++ [10] ++ t).length], ?_, by rw [closed, if_pos rfl, List.map_append, List.map_append]; rfl, ?_⟩
      · show (closed _ (a ++ [].map _) true, 0, 0) = _
        simp [closed]
      · intro i x y hx hy hk
        unfold closed at hy
        rw [if_pos rfl] at hy
        rcases Nat.lt_or_ge i a.length with hi | hi
        · rw [List.getElem?_append_left hi] at hx hy
          rw [hx] at hy
          rw [Option.some.inj hy]
        · rw [List.getElem?_append_right hi] at hx
          cases hi2 : i - a.length with
          | zero =>
            rw [hi2] at hx
            have := Option.some.inj hx
            exfalso
            apply hk
            rw [← this]
            rfl
          | succ m => rw [hi2] at hx; simp at hx
    · subst hob
      rw [hr]
      refine ⟨a ++ [endTok (q + (s.length + 1))], ?_, by rw [closed, if_pos rfl, List.map_append, List.map_append]; rfl, ?_⟩
      · show (closed _ (a ++ (endTok q :: b).map _) true, 0, 0) = _
        rw [hcl2, List.map_cons, show ∀ z : List Tk, sh (s.length + 1) (endTok q) :: z = [sh (s.length + 1) (endTok q)] ++ z from fun _ => rfl, hcl2, hcl, sh_end, List.append_assoc]
      · intro i x y hx hy hk
        unfold closed at hy
        rw [if_pos rfl] at hy
        rcases Nat.lt_or_ge i a.length with hi | hi
        · rw [List.getElem?_append_left hi] at hx hy
          rw [hx] at hy
          rw [Option.some.inj hy]
        · rw [List.getElem?_append_right hi] at hx
          cases hi2 : i - a.length with
          | zero =>
            rw [hi2] at hx
            have := Option.some.inj hx
            exfalso
            apply hk
            rw [← this]
            rfl
          | succ m => rw [hi2] at hx; simp at hx

theorem toksCells_take (toks : List Tk) (k : Nat) : toksCells (toks.take k) = (toksCells toks).take (k * 7) := by
  induction toks generalizing k with
  | nil => simp [toksCells]
  | cons a r ih =>
    cases k with
    | zero => simp [toksCells]
    | succ k =>
      have e : toksCells (a :: r) = tokCells a ++ toksCells r := by simp [toksCells]
      have e2 : toksCells ((a :: r).take (k + 1)) = tokCells a ++ toksCells (r.take k) := by simp [toksCells]
      have hl : (tokCells a).length = 7 := rfl
      rw [e2, e, ih, show (k + 1) * 7 = (tokCells a).length + k * 7 from by rw [hl]; omega, List.take_length_add_append]
theorem toksCells_drop (toks : List Tk) (k : Nat) : toksCells (toks.drop k) = (toksCells toks).drop (k * 7) := by
  induction toks generalizing k with
  | nil => simp [toksCells]
  | cons a r ih =>
    cases k with
    | zero => simp
    | succ k =>
      have e : toksCells (a :: r) = tokCells a ++ toksCells r := by simp [toksCells]
      have hl : (tokCells a).length = 7 := rfl
      rw [List.drop_succ_cons, e, ih, show (k + 1) * 7 = (tokCells a).length + k * 7 from by rw [hl]; omega, List.drop_length_add_append]
theorem TokRow.front {w : World} {A : Option Addr} {n c c' : Nat} {toks : List Tk} (h : TokRow w (.slice A n c) toks) (k : Nat) (hk : k ≤ toks.length) : TokRow w (.slice A k c') (toks.take k) := by
  obtain ⟨A', c', hv, hA⟩ := h
  injection hv with h1 h2 h3
  subst h1
  refine ⟨A, _, by rw [List.length_take, Nat.min_eq_left hk], fun hp => ?_⟩
  rw [List.length_take] at hp
  obtain ⟨g, off, e, hg, hc⟩ := hA (by omega)
  refine ⟨g, off, e, hg, fun j u hu => hc j u ?_⟩
  rw [toksCells_take, List.getElem?_take] at hu
  split at hu
  · exact hu
  · cases hu
theorem TokRow.back {w : World} {A A2 : Option Addr} {n c c2 : Nat} {toks : List Tk} (h : TokRow w (.slice A n c) toks) (k : Nat) (hA2 : k < toks.length → ∀ g off, A = some ⟨g, off, none⟩ → A2 = some ⟨g, off + k * 7, none⟩) : TokRow w (.slice A2 (toks.length - k) c2) (toks.drop k) := by
  obtain ⟨A', c', hv, hA⟩ := h
  injection hv with h1 h2 h3
  subst h1
  refine ⟨A2, _, by rw [List.length_drop], fun hp => ?_⟩
  rw [List.length_drop] at hp
  obtain ⟨g, off, e, hg, hc⟩ := hA (by omega)
  refine ⟨g, off + k * 7, hA2 (by omega) g off e, hg, fun j u hu => ?_⟩
  rw [toksCells_drop, List.getElem?_drop] at hu
  have := hc _ u hu
  rw [Nat.add_assoc]
  exact this

theorem own_forms {w : World} {base : Nat} {v : Value} {toks : List Tk} (h : w.ownsRow base 30 7 v toks.length (toksCells toks)) :
    (v = .slice none 0 0 ∧ toks = []) ∨ ∃ g cap, v = .slice (some ⟨g, 0, none⟩) toks.length cap ∧ toks.length ≤ cap := by
  rcases h.2 with ⟨hv, h0⟩ | ⟨g, cap, cur, hv, _, _, hc, _⟩
  · exact .inl ⟨hv, List.eq_nil_of_length_eq_zero h0⟩
  · exact .inr ⟨g, cap, hv, hc⟩
theorem cat_data (s t : ByteArray) : (s ++ ({ data := #[10] } : ByteArray) ++ t).data.toList = s.data.toList ++ [10] ++ t.data.toList := by
  simp [ByteArray.data_append]

set_option maxRecDepth 1000000 in
set_option maxHeartbeats 8000000 in
theorem LexRules_any (s t : ByteArray) (w : World) (hms : s.size ≤ maxLen) (hmt : t.size ≤ maxLen) :
    Calls Try.prog 6 #[.string s, .string t] w fun e w' => e = .returned (.bool true) ∧ Below w.heap.size w w' := by
  unfold maxLen at hms hmt
  by_cases hlong : 2000 < s.size ∨ 2000 < t.size
  · rcases hlong with hl | hl
    all_goals
      by_cases hl2 : 2000 < s.size
      all_goals
        go_enter Try.func6, Try.ntmps6
        go_wp2_with (go_at_call 8; refine (awake_any _).mono ?_; rintro e w1 ⟨rfl, hb⟩)
        all_goals first
          | omega
          | (go_ret; exact ⟨rfl, hb⟩)
  · have hs : s.size ≤ 2000 := by omega
    have ht : t.size ≤ 2000 := by omega
    clear hlong
    have HLS := Lib.hid (listLen s)
    have HLT := Lib.hid (listLen t)
    have HCAT := Lib.hid (fun h1 h2 => lex_cat s.data.toList t.data.toList (by rw [listLen]; exact hs) (by rw [listLen]; exact ht) h1 h2)
    have hla := lexP_len s.data.toList
    have hlb := lexP_len t.data.toList
    rw [listLen] at hla hlb
    have HS := Lib.hid (fun W => Lex_any s W)
    have HT := Lib.hid (fun W => Lex_any t W)
    have HRB := Lib.hid (lex_whole t.data.toList (by rw [listLen]; omega))
    have HRA := Lib.hid (lex_whole s.data.toList (by rw [listLen]; omega))
    generalize lexP s.data.toList = RA at *
    generalize lexP t.data.toList = RB at *
    obtain ⟨a, pa, ea⟩ := RA
    obtain ⟨b, pb, eb⟩ := RB
    simp only at hla hlb
    by_cases hok : ea = 0 ∧ eb = 0
    · obtain ⟨rfl, rfl⟩ := hok
      have HRISE := Lib.hid (HRB.out.1 rfl).2.1
      clear HRB HRA
      obtain ⟨a', hcat, hbare, hplace⟩ := HCAT.out rfl rfl
      have HBOTH := Lib.hid (fun W => Lex_any (s ++ ({ data := #[10] } : ByteArray) ++ t) W)
      rw [cat_data, hcat] at HBOTH
      simp only [HLS.out] at HBOTH hbare hplace
      have hla' : a'.length = a.length := by
        have := congrArg List.length hbare
        simpa using this
      have HBARE := Lib.hid hbare
      have HPLACE := Lib.hid hplace
      have HLA := Lib.hid hla'
      clear hcat hbare hplace HCAT hla'
      go_enter Try.func6, Try.ntmps6
      go_wp2_with fail
      refine (HS.out _).mono ?_
      rintro e w1 ⟨v1, rfl, hown1, hb1⟩
      have hr1 := TokRow.of_own hown1
      obtain ⟨A1, c1, rfl⟩ := hr1.len
      have HR1 := Lib.hid hr1
      clear hown1 hr1
      go_wp2_with fail
      refine (HT.out _).mono ?_
      rintro e w2 ⟨v2, rfl, hown2, hb2⟩
      have hr2 := TokRow.of_own hown2
      obtain ⟨A2, c2, rfl⟩ := hr2.len
      have HR2 := Lib.hid hr2
      clear hown2 hr2
      go_wp2_with fail
      refine (HBOTH.out _).mono ?_
      rintro e w3 ⟨v3, rfl, hown3, hb3⟩
      have hr3 := TokRow.of_own hown3
      have hf3 := own_forms hown3
      have HR3 := Lib.hid hr3
      have hnn : (a' ++ b.map (sh (s.size + 1))).length = a.length + b.length := by rw [List.length_append, List.length_map, HLA.out]
      clear hown3 hr3 HS HT HBOTH
      simp only at hf3 HR3
      rw [hnn] at hf3
      have HB3 := Lib.hid (hb1.trans ((hb2.mono hb1.size).trans (hb3.mono (Nat.le_trans hb1.size hb2.size))))
      have HR1' := Lib.hid ((HR1.out.below hb2).below hb3)
      have HR2' := Lib.hid (HR2.out.below hb3)
      clear HR1 HR2 hb1 hb2 hb3
      have HNN := Lib.hid hnn
      clear hnn
      generalize hna : a.length = na at *
      generalize hnb : b.length = nb at *
      have HNA := Lib.hid hna
      have HNB := Lib.hid hnb
      clear hna hnb
      rcases hf3 with ⟨rfl, hnil⟩ | ⟨g, cap, rfl, hcap⟩
      · have hz : na = 0 ∧ nb = 0 := by
          have := HNN.out
          rw [hnil, List.length_nil] at this
          omega
        obtain ⟨hz1, hz2⟩ := hz
        have ha0 : a' = [] := List.eq_nil_of_length_eq_zero (by rw [HLA.out, hz1])
        have hb0 : b = [] := List.eq_nil_of_length_eq_zero (by rw [HNB.out, hz2])
        have haa : a = [] := List.eq_nil_of_length_eq_zero (by rw [HNA.out, hz1])
        subst ha0; subst hb0; subst haa; subst hz1; subst hz2
        have HNIL := Lib.hid (fun W : World => (⟨none, 0, rfl, fun h => absurd h (by simp)⟩ : TokRow W (.slice none 0 0) []))
        clear hnil
        go_wp2_with fail
        refine (Alike_same _ _ [] [] _ (by simp) rfl (HNIL.out _) HR1'.out).mono ?_
        rintro e w4 ⟨rfl, hb4⟩
        go_wp2_with fail
        refine (Alike_same _ _ [] [] _ (by simp) rfl (HNIL.out _) (HR2'.out.below hb4)).mono ?_
        rintro e w5 ⟨rfl, hb5⟩
        have HB6 := Lib.hid (HB3.out.trans ((hb4.mono HB3.out.size).trans (hb5.mono (Nat.le_trans HB3.out.size hb4.size))))
        clear hb4 hb5 HB3 HR1' HR2' HR3
        go_wp2
        go_loopw [85] (fun i wr => i = .int .i64 0 ∧ Below w5.heap.size w5 wr) (fun _ _ => 0)
        case atStart => exact ⟨rfl, Below.refl _ _⟩
        case round =>
          obtain ⟨rfl, hbel⟩ := hrel
          go_wp2_with fail
          refine (awake_any _).mono ?_
          rintro e w6 ⟨rfl, hb6⟩
          go_wp2
          go_ret
          exact ⟨rfl, HB6.out.trans ((hbel.mono HB6.out.size).trans (hb6.mono (Nat.le_trans HB6.out.size hbel.size)))⟩
      · have hfront : TokRow w3 (.slice (some ⟨g, 0, none⟩) na cap) a' := by
          have := TokRow.front (c' := cap) HR3.out na (by rw [HNN.out]; omega)
          rwa [List.take_left' HLA.out] at this
        have HFR := Lib.hid hfront
        clear hfront
        have hback : TokRow w3 (.slice (some (if cap = na then ⟨g, 0, none⟩ else ⟨g, na * 7, none⟩)) nb (cap - na)) (b.map (sh (s.size + 1))) := by
          have := TokRow.back (A2 := some (if cap = na then ⟨g, 0, none⟩ else ⟨g, na * 7, none⟩)) (c2 := cap - na) HR3.out na (by
            intro hlt g' off' e
            rw [HNN.out] at hlt
            injection e with e
            injection e with e1 e2
            subst e1; subst e2
            rw [if_neg (by omega), Nat.zero_add])
          rw [List.drop_left' HLA.out, HNN.out, Nat.add_sub_cancel_left] at this
          exact this
        have HBK := Lib.hid hback
        clear hback
        go_wp2_with fail
        refine (Alike_same _ _ a' a _ (by rw [HLA.out]; omega) HBARE.out HFR.out HR1'.out).mono ?_
        rintro e w4 ⟨rfl, hb4⟩
        have hbareb : (b.map (sh (s.size + 1))).map bare = b.map bare := by
          rw [List.map_map]
          congr 1
        have HBB := Lib.hid hbareb
        clear hbareb
        by_cases hcn : cap = na
        · rw [if_pos hcn] at HBK
          have hcn' := hcn.symm
          subst hcn'
          rw [Nat.sub_self] at HBK
          clear hcn
          have hnb0 : nb ≤ 0 := by omega
          have hnbz : nb = 0 := by omega
          have HBK2 := HBK.out
          rw [hnbz] at HBK2
          have HBK3 := Lib.hid HBK2
          clear HBK2 hnbz
          go_wp2_with fail
          refine (Alike_same _ _ (b.map (sh (s.size + 1))) b _ (by rw [List.length_map, HNB.out]; omega) HBB.out (HBK3.out.below hb4) (HR2'.out.below hb4)).mono ?_
          clear hnb0 HBK3
          rintro e w5 ⟨rfl, hb5⟩
          have HB5 := Lib.hid (hb4.trans (hb5.mono hb4.size))
          have HB6 := Lib.hid (HB3.out.trans (HB5.out.mono HB3.out.size))
          have HC1 := Lib.hid (HR1'.out.below HB5.out)
          have HC2 := Lib.hid (HR2'.out.below HB5.out)
          have HC3 := Lib.hid (HR3.out.below HB5.out)
          clear HR1' HR2' HR3 HBK HFR hb4 hb5 HB3 HB5
          go_wp2
          go_loopw [85] (fun i wr => ∃ k : Nat, k ≤ na + nb ∧ i = .int .i64 k ∧ Below w5.heap.size w5 wr) (fun i _ => na + nb - (intOf i).toNat)
          case atStart => exact ⟨0, Nat.zero_le _, rfl, Below.refl _ _⟩
          case round =>
            obtain ⟨k, hk, rfl, hbel⟩ := hrel
            by_cases hlt : k < na + nb
            · obtain ⟨x, hx⟩ : ∃ x, (a' ++ b.map (sh (s.size + 1)))[k]? = some x := ⟨_, List.getElem?_eq_getElem (by rw [HNN.out]; exact hlt)⟩
              obtain ⟨g3, off3, e3, hg3, z0, z1, z2, z3, z4, z5, z6⟩ := (HC3.out.below hbel).at_ hx
              injection e3 with e3
              injection e3 with e31 e32
              subst e31; subst e32
              simp only [Nat.zero_add] at z0 z1 z2 z3 z4 z5 z6
              by_cases hka : k < na
              · have hxa : a'[k]? = some x := by
                  rw [List.getElem?_append_left (by rw [HLA.out]; exact hka)] at hx
                  exact hx
                obtain ⟨y, hy⟩ : ∃ y, a[k]? = some y := ⟨_, List.getElem?_eq_getElem (by rw [HNA.out]; exact hka)⟩
                obtain ⟨g1, off1, rfl, hg1, _, y1, _, _, _, _, _⟩ := (HC1.out.below hbel).at_ hy
                have hpl := HPLACE.out k x y hxa hy
                clear hx hxa hy
                obtain ⟨x0, x1, x2, x3, x4, x5, x6⟩ := x
                simp only at z0 z1 z2 z3 z4 z5 z6 hpl
                have d1 : decide ((k : Int) < na) = true := by simp; omega
                have d2 : decide ((na : Int) ≤ k) = false := by simp; omega
                have d3 : (0 : Int) ≤ k := by omega
                have d4 : (k : Int) < na := by omega
                have d5 : decide (k < na) = true := by simp; omega
                have d6 : decide (na ≤ k) = false := by simp; omega
                by_cases hk13 : x0 = 13
                · have hk2 : (x0 != 13) = false := by
                    rw [bne_eq_false_iff_eq]
                    exact hk13
                  clear hpl hk13
                  go_wp2
                  go_quiet (fail)
                  go_wp2
                  go_quiet (fail)
                  go_wp2
                  go_roundw
                  case rel => exact ⟨k + 1, by omega, by go_num, below_drewN (hbel.alloc hbel.size _) _⟩
                  case measure => simp [intOf]; omega
                · have hk2 : (x0 != 13) = true := by
                    rw [bne_iff_ne]
                    exact hk13
                  have hpl2 := hpl hk13
                  rw [← hpl2] at y1
                  clear hpl hpl2 hk13
                  go_wp2
                  go_quiet (fail)
                  go_wp2
                  go_quiet (fail)
                  go_wp2
                  go_roundw
                  case rel => exact ⟨k + 1, by omega, by go_num, below_drewN (hbel.alloc hbel.size _) _⟩
                  case measure => simp [intOf]; omega
              · exfalso
                omega
            · obtain rfl : k = na + nb := by omega
              go_wp2_with fail
              refine (awake_any _).mono ?_
              rintro e w6 ⟨rfl, hb6⟩
              go_wp2
              go_ret
              exact ⟨rfl, HB6.out.trans ((hbel.mono HB6.out.size).trans (hb6.mono (Nat.le_trans HB6.out.size hbel.size)))⟩
        · rw [if_neg hcn] at HBK
          go_wp2_with fail
          refine (Alike_same _ _ (b.map (sh (s.size + 1))) b _ (by rw [List.length_map, HNB.out]; omega) HBB.out (HBK.out.below hb4) (HR2'.out.below hb4)).mono ?_
          rintro e w5 ⟨rfl, hb5⟩
          have HB5 := Lib.hid (hb4.trans (hb5.mono hb4.size))
          have HB6 := Lib.hid (HB3.out.trans (HB5.out.mono HB3.out.size))
          have HC1 := Lib.hid (HR1'.out.below HB5.out)
          have HC2 := Lib.hid (HR2'.out.below HB5.out)
          have HC3 := Lib.hid (HR3.out.below HB5.out)
          clear HR1' HR2' HR3 HBK HFR hb4 hb5 HB3 HB5
          go_wp2
          go_loopw [85] (fun i wr => ∃ k : Nat, k ≤ na + nb ∧ i = .int .i64 k ∧ Below w5.heap.size w5 wr) (fun i _ => na + nb - (intOf i).toNat)
          case atStart => exact ⟨0, Nat.zero_le _, rfl, Below.refl _ _⟩
          case round =>
            obtain ⟨k, hk, rfl, hbel⟩ := hrel
            by_cases hlt : k < na + nb
            · obtain ⟨x, hx⟩ : ∃ x, (a' ++ b.map (sh (s.size + 1)))[k]? = some x := ⟨_, List.getElem?_eq_getElem (by rw [HNN.out]; exact hlt)⟩
              obtain ⟨g3, off3, e3, hg3, z0, z1, z2, z3, z4, z5, z6⟩ := (HC3.out.below hbel).at_ hx
              injection e3 with e3
              injection e3 with e31 e32
              subst e31; subst e32
              simp only [Nat.zero_add] at z0 z1 z2 z3 z4 z5 z6
              by_cases hka : k < na
              · have hxa : a'[k]? = some x := by
                  rw [List.getElem?_append_left (by rw [HLA.out]; exact hka)] at hx
                  exact hx
                obtain ⟨y, hy⟩ : ∃ y, a[k]? = some y := ⟨_, List.getElem?_eq_getElem (by rw [HNA.out]; exact hka)⟩
                obtain ⟨g1, off1, rfl, hg1, _, y1, _, _, _, _, _⟩ := (HC1.out.below hbel).at_ hy
                have hpl := HPLACE.out k x y hxa hy
                clear hx hxa hy
                obtain ⟨x0, x1, x2, x3, x4, x5, x6⟩ := x
                simp only at z0 z1 z2 z3 z4 z5 z6 hpl
                have d1 : decide ((k : Int) < na) = true := by simp; omega
                have d2 : decide ((na : Int) ≤ k) = false := by simp; omega
                have d3 : (0 : Int) ≤ k := by omega
                have d4 : (k : Int) < na := by omega
                have d5 : decide (k < na) = true := by simp; omega
                have d6 : decide (na ≤ k) = false := by simp; omega
                by_cases hk13 : x0 = 13
                · have hk2 : (x0 != 13) = false := by
                    rw [bne_eq_false_iff_eq]
                    exact hk13
                  clear hpl hk13
                  go_wp2
                  go_quiet (fail)
                  go_wp2
                  go_quiet (fail)
                  go_wp2
                  go_roundw
                  case rel => exact ⟨k + 1, by omega, by go_num, below_drewN (hbel.alloc hbel.size _) _⟩
                  case measure => simp [intOf]; omega
                · have hk2 : (x0 != 13) = true := by
                    rw [bne_iff_ne]
                    exact hk13
                  have hpl2 := hpl hk13
                  rw [← hpl2] at y1
                  clear hpl hpl2 hk13
                  go_wp2
                  go_quiet (fail)
                  go_wp2
                  go_quiet (fail)
                  go_wp2
                  go_roundw
                  case rel => exact ⟨k + 1, by omega, by go_num, below_drewN (hbel.alloc hbel.size _) _⟩
                  case measure => simp [intOf]; omega
              · obtain ⟨j, rfl⟩ : ∃ j, k = na + j := ⟨k - na, by omega⟩
                obtain ⟨y, hy⟩ : ∃ y, b[j]? = some y := ⟨_, List.getElem?_eq_getElem (by rw [HNB.out]; omega)⟩
                obtain ⟨g2, off2, rfl, hg2, _, y1, _, _, _, _, _⟩ := (HC2.out.below hbel).at_ hy
                have hxy : x = sh (s.size + 1) y := by
                  rw [List.getElem?_append_right (by rw [HLA.out]; omega), HLA.out, Nat.add_sub_cancel_left, List.getElem?_map, hy] at hx
                  exact (Option.some.inj hx).symm
                obtain ⟨_, _, p, hp, hpl, _⟩ := HRISE.out j y hy
                rw [HLT.out] at hpl
                subst hxy
                obtain ⟨x0, x1, x2, x3, x4, x5, x6⟩ := y
                simp only at hp
                subst hp
                simp only [sh] at z0 z1 z2 z3 z4 z5 z6 y1
                clear hx hy
                have d1 : decide ((na : Int) + j < na) = false := by simp; omega
                have d2 : decide ((na : Int) ≤ (na : Int) + j) = true := by simp; omega
                have d9 : decide (na + j < na) = false := by simp
                have d10 : decide (na ≤ na + j) = true := by simp
                have d3 : (na : Int) + j - na = j := by omega
                have d4 : IntKind.i64.wrap ((na : Int) + j - na) = j := by rw [d3]; exact IntWalk.i64_in _ (by omega)
                have d5 : IntKind.i64.wrap ((p : Int) + s.size) = (p : Int) + s.size := IntWalk.i64_in _ (by omega)
                have d6 : IntKind.i64.wrap ((p : Int) + s.size + 1) = (p : Int) + s.size + 1 := IntWalk.i64_in _ (by omega)
                have d7 : (0 : Int) ≤ j := by omega
                have d8 : (j : Int) < nb := by omega
                go_wp2
                go_quiet (fail)
                go_wp2
                go_quiet (fail)
                clear d1 d2 d3 d4 d5 d6 d9 d10
                go_wp2
                go_roundw
                case rel => exact ⟨na + j + 1, by omega, by go_num, below_drewN (hbel.alloc hbel.size _) _⟩
                case measure => simp [intOf]; omega
            · obtain rfl : k = na + nb := by omega
              go_wp2_with fail
              refine (awake_any _).mono ?_
              rintro e w6 ⟨rfl, hb6⟩
              go_wp2
              go_ret
              exact ⟨rfl, HB6.out.trans ((hbel.mono HB6.out.size).trans (hb6.mono (Nat.le_trans HB6.out.size hbel.size)))⟩
    · by_cases hea : ea = 0
      · have heb : ((eb : Int) != 0) = true := by
          rw [bne_iff_ne]
          omega
        have heb2 : ((eb : Int) == 0) = false := by
          rw [beq_eq_false_iff_ne]
          omega
        subst hea
        clear hok HCAT
        go_enter Try.func6, Try.ntmps6
        go_wp2_with fail
        refine (HS.out _).mono ?_
        rintro e w1 ⟨v1, rfl, hown1, hb1⟩
        obtain ⟨A1, c1, rfl⟩ := own_len hown1
        clear hown1
        go_wp2_with fail
        refine (HT.out _).mono ?_
        rintro e w2 ⟨v2, rfl, hown2, hb2⟩
        obtain ⟨A2, c2, rfl⟩ := own_len hown2
        clear hown2
        go_wp2_with fail
        refine (awake_any _).mono ?_
        rintro e w3 ⟨rfl, hb3⟩
        go_wp2
        go_ret
        exact ⟨rfl, hb1.trans ((hb2.mono hb1.size).trans (hb3.mono (Nat.le_trans hb1.size hb2.size)))⟩
      · have heb : ((ea : Int) != 0) = true := by
          rw [bne_iff_ne]
          omega
        have heb2 : ((ea : Int) == 0) = false := by
          rw [beq_eq_false_iff_ne]
          omega
        clear hok HCAT hea
        go_enter Try.func6, Try.ntmps6
        go_wp2_with fail
        refine (HS.out _).mono ?_
        rintro e w1 ⟨v1, rfl, hown1, hb1⟩
        obtain ⟨A1, c1, rfl⟩ := own_len hown1
        clear hown1
        go_wp2_with fail
        refine (HT.out _).mono ?_
        rintro e w2 ⟨v2, rfl, hown2, hb2⟩
        obtain ⟨A2, c2, rfl⟩ := own_len hown2
        clear hown2
        go_wp2_with fail
        refine (awake_any _).mono ?_
        rintro e w3 ⟨rfl, hb3⟩
        go_wp2
        go_ret
        exact ⟨rfl, hb1.trans ((hb2.mono hb1.size).trans (hb3.mono (Nat.le_trans hb1.size hb2.size)))⟩
end Go.Proofs.Ytiicfaohplnapaa
