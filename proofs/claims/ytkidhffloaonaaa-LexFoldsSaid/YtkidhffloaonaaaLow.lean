/-
  The contracts of frankinglow's Toks and Alike where the two lists are the same (but for places): they answer true. Conditions: the lists as they lie in memory, of at most 200000 tokens.
-/
import Derived.Test.YtkidhffloaonaaaLex
namespace Go.Proofs.Ytkidhffloaonaaa
open Go.RowKit

/-- a slice value whose cells are these tokens -/
def TokRow (w : World) (v : Value) (toks : List Tk) : Prop :=
  ∃ (A : Option Addr) (c : Nat), v = .slice A toks.length c ∧ (0 < toks.length → ∃ g off, A = some ⟨g, off, none⟩ ∧ g < w.heap.size ∧ ∀ j u, (toksCells toks)[j]? = some u → w.cell? ⟨g, off + j, none⟩ = some u)

theorem TokRow.of_own {w : World} {base : Nat} {v : Value} {toks : List Tk} (h : w.ownsRow base 30 7 v toks.length (toksCells toks)) : TokRow w v toks := by
  rcases h.2 with ⟨rfl, h0⟩ | ⟨g, cap, cur, rfl, hg, hh, _⟩
  · exact ⟨none, 0, by rw [h0], fun hp => by omega⟩
  · refine ⟨_, cap, rfl, fun _ => ⟨g, 0, rfl, (Array.getElem?_eq_some_iff.1 hh).1, fun j u hu => ?_⟩⟩
    have := h.cells (g := g) rfl j u hu
    have hadd : (⟨g, 0, none⟩ : Addr).add j = ⟨g, 0 + j, none⟩ := by unfold Addr.add; split <;> simp_all
    rw [hadd] at this
    exact this
theorem TokRow.below {w w' : World} {v : Value} {toks : List Tk} (h : TokRow w v toks) (hb : Below w.heap.size w w') : TokRow w' v toks := by
  obtain ⟨A, c, hv, hA⟩ := h
  refine ⟨A, c, hv, fun hp => ?_⟩
  obtain ⟨g, off, rfl, hg, hc⟩ := hA hp
  exact ⟨g, off, rfl, by have := hb.size; omega, fun j u hu => (hb.cell (p := ⟨g, off + j, none⟩) hg).trans (hc j u hu)⟩

theorem toksCells_at : ∀ (toks : List Tk) (k : Nat) (t : Tk), toks[k]? = some t → ∀ j, j < 7 → (toksCells toks)[k * 7 + j]? = (tokCells t)[j]? := by
  intro toks
  induction toks with
  | nil => intro k t h; simp at h
  | cons a r ih =>
    intro k t h j hj
    have e : toksCells (a :: r) = tokCells a ++ toksCells r := by simp [toksCells]
    have hl : (tokCells a).length = 7 := rfl
    rw [e]
    cases k with
    | zero =>
      have : a = t := by simpa using h
      subst this
      rw [Nat.zero_mul, Nat.zero_add, List.getElem?_append_left (by rw [hl]; exact hj)]
    | succ k =>
      rw [List.getElem?_append_right (by rw [hl]; omega), hl, show (k + 1) * 7 + j - 7 = k * 7 + j from by omega]
      exact ih k t (by simpa using h) j hj

/-- the cells of one token of a row -/
theorem TokRow.at_ {w : World} {A : Option Addr} {n c : Nat} {toks : List Tk} (h : TokRow w (.slice A n c) toks) {k : Nat} {t : Tk} (ht : toks[k]? = some t) :
    ∃ g off, A = some ⟨g, off, none⟩ ∧ g < w.heap.size ∧ w.cell? ⟨g, off + k * 7, none⟩ = some (.int .u8 t.kind) ∧ w.cell? ⟨g, off + k * 7 + 1, none⟩ = some (.int .i64 t.place) ∧ w.cell? ⟨g, off + k * 7 + 2, none⟩ = some (.string (bs t.text)) ∧
      w.cell? ⟨g, off + k * 7 + 3, none⟩ = some (.int .i64 t.mn) ∧ w.cell? ⟨g, off + k * 7 + 4, none⟩ = some (.int .i64 t.mx) ∧ w.cell? ⟨g, off + k * 7 + 5, none⟩ = some (.int .u8 t.lo) ∧ w.cell? ⟨g, off + k * 7 + 6, none⟩ = some (.int .u8 t.hi) := by
  obtain ⟨A', c', hv, hA⟩ := h
  injection hv with h1 h2 h3
  subst h1
  obtain ⟨hk, _⟩ := List.getElem?_eq_some_iff.1 ht
  obtain ⟨g, off, rfl, hg, hc⟩ := hA (by omega)
  have key : ∀ j u, (tokCells t)[j]? = some u → j < 7 → w.cell? ⟨g, off + k * 7 + j, none⟩ = some u := fun j u hu hj => by
    rw [Nat.add_assoc]
    exact hc _ u (by rw [toksCells_at toks k t ht j hj, hu])
  exact ⟨g, off, rfl, hg, key 0 _ rfl (by omega), key 1 _ rfl (by omega), key 2 _ rfl (by omega), key 3 _ rfl (by omega), key 4 _ rfl (by omega), key 5 _ rfl (by omega), key 6 _ rfl (by omega)⟩
theorem TokRow.len {w : World} {v : Value} {toks : List Tk} (h : TokRow w v toks) : ∃ A c, v = .slice A toks.length c := by
  obtain ⟨A, c, hv, _⟩ := h
  exact ⟨A, c, hv⟩

set_option maxHeartbeats 2000000 in
theorem Toks_same (a b : Value) (toks : List Tk) (w : World) (hn : toks.length ≤ 200000) (ha : TokRow w a toks) (hb : TokRow w b toks) :
    Calls Try.prog 11 #[a, b] w fun e w' => e = .returned (.bool true) ∧ ∃ m, w' = w.drewN m := by
  obtain ⟨A, c, rfl⟩ := ha.len
  obtain ⟨B, d, rfl⟩ := hb.len
  have HA := Lib.hid ha
  have HB := Lib.hid hb
  clear ha hb
  generalize hlen : toks.length = n at *
  have HL := Lib.hid hlen
  clear hlen
  go_enter Try.func11, Try.ntmps11
  go_wp2
  go_loopw [13] (fun i wr => ∃ k m : Nat, k ≤ n ∧ i = .int .i64 k ∧ wr = w.drewN m) (fun i _ => n - (intOf i).toNat)
  case atStart => exact ⟨0, 0, Nat.zero_le _, rfl, rfl⟩
  case round =>
    obtain ⟨k, m, hk, rfl, rfl⟩ := hrel
    by_cases hlt : k < n
    · obtain ⟨t, ht⟩ : ∃ t, toks[k]? = some t := ⟨_, List.getElem?_eq_getElem (by rw [HL.out]; exact hlt)⟩
      obtain ⟨g, off, rfl, _, a0, a1, a2, a3, a4, a5, a6⟩ := HA.out.at_ ht
      obtain ⟨g', off', rfl, _, b0, b1, b2, b3, b4, b5, b6⟩ := HB.out.at_ ht
      have hlt' : (k : Int) < n := by omega
      have h0' : (0 : Int) ≤ k := by omega
      go_wp2
      go_quiet (fail)
      go_wp2
      go_roundw
      case rel => exact ⟨k + 1, _, by omega, by go_num, rfl⟩
      case measure => simp [intOf]; omega
    · go_wp2
      go_ret
      exact ⟨rfl, _, rfl⟩

def bare (t : Tk) : Tk := { t with place := 0 }

set_option maxHeartbeats 4000000 in
theorem Alike_same (a b : Value) (xs ys : List Tk) (w : World) (hn : xs.length ≤ 200000) (he : xs.map bare = ys.map bare) (ha : TokRow w a xs) (hb : TokRow w b ys) :
    Calls Try.prog 16 #[a, b] w fun e w' => e = .returned (.bool true) ∧ Below w.heap.size w w' := by
  obtain ⟨A, c, rfl⟩ := ha.len
  obtain ⟨B, d, rfl⟩ := hb.len
  have hle : xs.length = ys.length := by
    have := congrArg List.length he
    simpa using this
  rw [← hle] at hb ⊢
  have HE := Lib.hid he
  have HLY := Lib.hid hle
  have HA := Lib.hid ha
  have HB := Lib.hid hb
  clear ha hb he hle
  generalize hlen : xs.length = n at *
  have HL := Lib.hid hlen
  clear hlen
  go_enter Try.func16, Try.ntmps16
  go_wp2
  go_loopw [15] (fun i wr => ∃ k : Nat, k ≤ n ∧ i = .int .i64 k ∧ Below w.heap.size w wr) (fun i _ => n - (intOf i).toNat)
  case atStart => exact ⟨0, Nat.zero_le _, rfl, Below.refl _ _⟩
  case round =>
    obtain ⟨k, hk, rfl, hbel⟩ := hrel
    by_cases hlt : k < n
    · obtain ⟨x, hx⟩ : ∃ x, xs[k]? = some x := ⟨_, List.getElem?_eq_getElem (by rw [HL.out]; exact hlt)⟩
      obtain ⟨y, hy⟩ : ∃ y, ys[k]? = some y := ⟨_, List.getElem?_eq_getElem (by rw [← HLY.out]; exact hlt)⟩
      have hxy : bare x = bare y := by
        have := congrArg (·[k]?) HE.out
        simp only [List.getElem?_map, hx, hy, Option.map_some] at this
        exact Option.some.inj this
      obtain ⟨x0, x1, x2, x3, x4, x5, x6⟩ := x
      obtain ⟨y0, y1, y2, y3, y4, y5, y6⟩ := y
      simp only [bare, Tk.mk.injEq] at hxy
      obtain ⟨rfl, _, rfl, rfl, rfl, rfl, rfl⟩ := hxy
      obtain ⟨g, off, rfl, hg, a0, a1, a2, a3, a4, a5, a6⟩ := (HA.out.below hbel).at_ hx
      obtain ⟨g', off', rfl, hg', b0, b1, b2, b3, b4, b5, b6⟩ := (HB.out.below hbel).at_ hy
      have hlt' : (k : Int) < n := by omega
      have h0' : (0 : Int) ≤ k := by omega
      clear hx hy
      go_wp2
      go_region
      all_goals
        go_wp2
        go_roundw
        case rel => exact ⟨k + 1, by omega, by go_num, ((hbel.alloc hbel.size _).alloc (by have := hbel.size; simp; omega) _).drew⟩
        case measure => simp [intOf]; omega
    · go_wp2
      go_ret
      exact ⟨rfl, hbel⟩
end Go.Proofs.Ytkidhffloaonaaa
