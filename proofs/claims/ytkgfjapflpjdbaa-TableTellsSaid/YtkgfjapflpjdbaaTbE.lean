/-
  The contract of table.rightNames. Conditions: the names lie in memory; each within Go's own bounds.
-/
import Derived.Test.YtkgfjapflpjdbaaTbB
import Derived.Maps.OwnSet
import Derived.Maps.Views
import Derived.Below
namespace Go.Proofs.Ytkgfjapflpjdbaa
open Go.RowKit Go.Maps Go.WideMaps

/-- is every name one, and are they few, and no two the same? -/
def namesB (l : List (List UInt8)) : Bool := decide (1 ≤ l.length) && (decide (l.length ≤ 200) && (l.all nameB && decide l.Nodup))

/-! ### a set of texts counts the different ones -/
def addN (acc : List (List UInt8)) (x : List UInt8) : List (List UInt8) := if x ∈ acc then acc else acc ++ [x]
theorem any_text (x : List UInt8) : ∀ l : List (List UInt8), (l.map Lit.string).any (fun y => y.sameKey (.string x)) = decide (x ∈ l)
  | [] => by simp
  | a :: r => by
    rw [List.map_cons, List.any_cons, any_text x r]
    rw [show (Lit.string a).sameKey (.string x) = (a == x) from rfl]
    by_cases e : a = x
    · subst e; simp
    · have e2 : ¬ x = a := fun h => e h.symm
      simp [e, e2]
theorem add_map : ∀ (xs acc : List (List UInt8)), (xs.map Lit.string).foldl addKey (acc.map Lit.string) = (xs.foldl addN acc).map Lit.string
  | [], acc => rfl
  | x :: r, acc => by
    rw [List.map_cons, List.foldl_cons, List.foldl_cons, ← add_map r (addN acc x)]
    congr 1
    unfold addKey addN
    rw [any_text]
    by_cases h : x ∈ acc
    · simp [h]
    · simp [h]
theorem add_len : ∀ (xs acc : List (List UInt8)), (xs.foldl addN acc).length ≤ acc.length + xs.length ∧ ((xs.foldl addN acc).length = acc.length + xs.length ↔ xs.Nodup ∧ ∀ x ∈ xs, x ∉ acc)
  | [], acc => by simp
  | x :: r, acc => by
    obtain ⟨h1, h2⟩ := add_len r (addN acc x)
    rw [List.foldl_cons, List.nodup_cons]
    by_cases h : x ∈ acc
    · have e : addN acc x = acc := if_pos h
      rw [e] at h1 h2 ⊢
      refine ⟨by simp; omega, ?_⟩
      constructor
      · intro e; simp at e; omega
      · rintro ⟨_, hh⟩; exact absurd h (hh x (by simp))
    · have e : addN acc x = acc ++ [x] := if_neg h
      rw [e] at h1 h2 ⊢
      have hl : (acc ++ [x]).length = acc.length + 1 := by simp
      rw [hl] at h1 h2
      refine ⟨by simp; omega, ?_⟩
      rw [show acc.length + (x :: r).length = acc.length + 1 + r.length from by simp; omega, h2]
      constructor
      · rintro ⟨ha, hb⟩
        refine ⟨⟨fun hx => by have := hb x hx; simp at this, ha⟩, fun y hy => ?_⟩
        rcases List.mem_cons.1 hy with rfl | hy
        · exact h
        · have := hb y hy; simp at this; exact this.1
      · rintro ⟨⟨ha, hb⟩, hc⟩
        refine ⟨hb, fun y hy => ?_⟩
        have := hc y (by simp [hy])
        simp only [List.mem_append, List.mem_singleton, not_or]
        exact ⟨this, fun e => ha (e ▸ hy)⟩
def setN (l : List (List UInt8)) : DataW Unit := setOf (.agg []) (l.map Lit.string)
theorem setN_snoc (l : List (List UInt8)) (x : List UInt8) : setN (l ++ [x]) = (setN l).put (.string x) (.agg []) := by
  unfold setN
  rw [List.map_append, List.map_singleton, setOf_snoc]
theorem setN_size (l : List (List UInt8)) : Maps.size (setN l) ≤ l.length ∧ (Maps.size (setN l) = l.length ↔ l.Nodup) := by
  unfold setN
  rw [size_setOf _ _ (fun x hx => by obtain ⟨_, _, rfl⟩ := List.mem_map.1 hx; trivial)]
  have := add_map l []
  rw [List.map_nil] at this
  rw [this, List.length_map]
  have h := add_len l []
  simp only [List.length_nil, Nat.zero_add, List.not_mem_nil, not_false_eq_true, implies_true, and_true] at h
  exact h
theorem names_step (l : List (List UInt8)) (k : Nat) (h : k < l.length) : (l.take (k + 1)).all nameB = ((l.take k).all nameB && nameB l[k]) := by
  rw [List.take_succ_eq_append_getElem h, List.all_append]
  simp
theorem names_no (l : List (List UInt8)) (k : Nat) (h : k < l.length) (hp : nameB l[k] = false) : l.all nameB = false := by
  rw [← Bool.not_eq_true, List.all_eq_true]
  intro hh
  have := hh _ (List.getElem_mem h)
  rw [hp] at this
  cases this
theorem keyT : Keyed Try.prog 9 := string_keyed Try.underlying9

set_option maxRecDepth 100000 in
set_option maxHeartbeats 1000000 in
theorem rightNames_any (a : Option Addr) (l : List (List UInt8)) (c : Nat) (w : World) (h : TextsAt w a l) (hs : ∀ s ∈ l, s.length ≤ maxLen) :
    Calls Try.prog 21 #[.slice a l.length c] w fun e w' => e = .returned (.bool (namesB l)) ∧ Below w.heap.size w w' := by
  have hl := h.len
  unfold maxLen at hl
  have HA := Lib.hid h
  have HS := Lib.hid hs
  have HR : Hid (namesB l = (decide (1 ≤ l.length) && (decide (l.length ≤ 200) && (l.all nameB && decide l.Nodup)))) := show _ = _ from rfl
  have HLA : Hid (∀ k < l.length, ∃ b off, a = some ⟨b, off, none⟩ ∧ b < w.heap.size ∧ w.cell? ⟨b, off + k, none⟩ = some (.string (bs (l.getD k [])))) := by
    intro k hk
    obtain ⟨b, off, h1, h2, h3⟩ := RowAt.row h (by simp; omega)
    refine ⟨b, off, h1, h2, ?_⟩
    rw [h3 k (by simpa using hk), List.getElem_map, List.getD_eq_getElem?_getD, List.getElem?_eq_getElem hk]
    rfl
  clear h hs
  generalize namesB l = R at *
  have hmm : ∀ (n : Int) (w : World), (Instr.makeMap 63 (some (.int .i64 n))).run Try.prog w = .ok (.map (some w.heap.size)) (w.alloc (.map #[] 0)) := fun n w => rfl
  by_cases h0 : l.length < 1
  · have HR2 : Hid (R = false) := by show _ = _; rw [HR.out, decide_eq_false (by omega)]; rfl
    go_enter Try.func21, Try.ntmps21
    go_wp2
    go_ret
    exact ⟨ret_bool HR2.out.symm, Below.refl _ _⟩
  · by_cases h200 : 200 < l.length
    · have HR2 : Hid (R = false) := by show _ = _; rw [HR.out, decide_eq_false (p := l.length ≤ 200) (by omega)]; simp
      go_enter Try.func21, Try.ntmps21
      go_wp2
      go_ret
      exact ⟨ret_bool HR2.out.symm, Below.refl _ _⟩
    · have HR2 : Hid (R = (l.all nameB && decide l.Nodup)) := by show _ = _; rw [HR.out, decide_eq_true (by omega), decide_eq_true (by omega)]; rfl
      clear HR
      have hn : l.length ≤ 200 := by omega
      go_enter Try.func21, Try.ntmps21
      go_wp2
      go_loopw [19] (fun i wr => ∃ k : Nat, k ≤ l.length ∧ i = .int .i64 k ∧ wr.ownsMap Try.prog 9 (unitElem (H := Unit)) w.heap.size k (setN (l.take k)) ∧ Hid ((l.take k).all nameB = true) ∧ Hid (Below w.heap.size w wr))
        (fun i _ => l.length - (intOf i).toNat)
      case atStart => exact ⟨0, Nat.zero_le _, rfl, World.ownsMap_made _ _ _ _, show _ = _ from rfl, (Below.refl _ _).alloc (Nat.le_refl _) _⟩
      case round =>
        obtain ⟨k, hk, rfl, hown, HK, HB⟩ := hrel
        by_cases hlt : k < l.length
        · obtain ⟨b, off, rfl, hbl, hc⟩ := HLA.out k hlt
          have hcell : wr.cell? ⟨b, off + k, none⟩ = some (.string (bs (l.getD k []))) := (HB.out.cell (p := ⟨b, off + k, none⟩) hbl).trans hc
          have hge : l.getD k [] = l[k] := by rw [List.getD_eq_getElem?_getD, List.getElem?_eq_getElem hlt]; rfl
          have hsz := HS.out (l.getD k []) (by rw [hge]; exact List.getElem_mem hlt)
          have hkey := keyOf_string_mk Try.underlying9 (s := bs (l.getD k [])) hsz
          have HST := Lib.hid (names_step l k hlt)
          have HNO := Lib.hid (names_no l k hlt)
          have HSN := Lib.hid (setN_snoc (l.take k) l[k])
          rw [← List.take_succ_eq_append_getElem hlt] at HSN
          rw [← hge] at HST HNO HSN
          have HN := Lib.hid (isName_any (bs (l.getD k [])) hsz)
          rw [bs_list] at hkey HN
          clear hc hge hsz
          generalize l.getD k [] = s at *
          cases hnm : nameB s with
          | false =>
            have HR3 : Hid (R = false) := by show _ = _; rw [HR2.out, HNO.out hnm]; rfl
            have HN2 : Hid (∀ w, Calls Try.prog 34 #[.string (bs s)] w fun e w' => e = .returned (.bool false) ∧ w = w') := fun w => by have := HN.out w; rwa [hnm] at this
            go_wp2_with (first | (go_at_call 34; refine (HN2.out _).mono ?_; rintro e w' ⟨rfl, rfl⟩) | go_in)
            go_ret
            exact ⟨ret_bool HR3.out.symm, HB.out⟩
          | true =>
            have HN2 : Hid (∀ w, Calls Try.prog 34 #[.string (bs s)] w fun e w' => e = .returned (.bool true) ∧ w = w') := fun w => by have := HN.out w; rwa [hnm] at this
            have HST2 : Hid ((l.take (k + 1)).all nameB = true) := by show _ = _; rw [HST.out, HK.out, hnm]; rfl
            go_wp2_with (first
              | (go_at_call 34; refine (HN2.out _).mono ?_; rintro e w' ⟨rfl, rfl⟩)
              | (at_mapUpdate; refine wpList_mapUpdate_own _ rfl _ _ _ 63 rfl 9 64 keyT Try.underlying63 (unitElem (H := Unit)) w.heap.size k _ rfl hown (by unfold maxLen; omega) _ _ _ rfl rfl hkey _ [] unitElem_mk ?_; intro w1 hown1 hgrow1)
              | go_in)
            go_roundw
            case rel => exact ⟨k + 1, by omega, by go_num, HSN.out.symm ▸ hown1, HST2, HB.out.grown hgrow1 HB.out.size (fun j hj => by cases hj; exact Nat.le_refl _)⟩
            case measure => simp [intOf]; omega
        · have hkk : k = l.length := by omega
          have ht : l.take k = l := by rw [hkk, List.take_length]
          rw [ht] at hown HK
          obtain ⟨hz1, hz2⟩ := setN_size l
          have HZ := Lib.hid hz2
          have HR3 : Hid (R = decide (Maps.size (setN l) = l.length)) := by
            show _ = _
            rw [HR2.out, HK.out, Bool.true_and]
            exact decide_eq_decide.2 HZ.out.symm
          clear hz2 ht HZ hkk HK HR2
          go_wp2_with (first
            | (at_len; refine wpList_len_own _ rfl _ 63 rfl 9 64 Try.underlying63 (unitElem (H := Unit)) w.heap.size k (setN l) rfl hown ?_)
            | go_in)
          go_ret
          exact ⟨ret_bool (by rw [HR3.out]; by_cases hq : Maps.size (setN l) = l.length <;> simp [hq]; omega), HB.out⟩
end Go.Proofs.Ytkgfjapflpjdbaa
