/-
  The contract of table.Step. Conditions: the table lies in memory; names within Go's own bounds.
-/
import Derived.Test.YtkgfjapflpjdbaaTbI
namespace Go.Proofs.Ytkgfjapflpjdbaa
open Go.RowKit

theorem below_drewN {B : Nat} {w w' : World} (h : Below B w w') : ∀ n, Below B w (w'.drewN n)
  | 0 => h
  | n + 1 => (below_drewN h n).drew
def classZ (t : Tab) (b : UInt8) : Nat := (t.of.getD b.toNat 0).toNat
def stepP (t : Tab) (s : Int) (b : UInt8) : Int := if s < 0 ∨ (t.tags.length : Int) ≤ s ∨ tabRightB t = false then -1 else t.next.getD (s.toNat * t.dmany.toNat + classZ t b) 0
theorem class_at {t : Tab} (h : t.of.length = 256) (b : UInt8) : ∃ hb : b.toNat < t.of.length, t.of[b.toNat] = t.of.getD b.toNat 0 := by
  have := b.toNat_lt
  exact ⟨by omega, by rw [List.getD_eq_getElem?_getD, List.getElem?_eq_getElem (by omega)]; rfl⟩
/-- the place of a step lies within the machine -/
theorem step_in {t : Tab} (h : RightT t) (ho : t.of.length = 256) (s : Nat) (hs : s < t.tags.length) (b : UInt8) : s * t.dmany.toNat + classZ t b < t.next.length := by
  obtain ⟨hb, he⟩ := class_at ho b
  have h1 := clRight_lt h.cl b.toNat hb
  rw [he] at h1
  have h2 : classZ t b < t.dmany.toNat := by unfold classZ; have := h.same; omega
  have h3 : (t.tags.length : Int) * t.dmany = ((t.tags.length * t.dmany.toNat : Nat) : Int) := by
    rw [Int.natCast_mul, Int.toNat_of_nonneg (by have := h.lo; omega)]
  have h4 : t.next.length = t.tags.length * t.dmany.toNat := by have := h.len; omega
  have h5 : (s + 1) * t.dmany.toNat ≤ t.tags.length * t.dmany.toNat := Nat.mul_le_mul_right _ hs
  rw [Nat.succ_mul] at h5
  omega
attribute [local go_sem ↓] loadOp_C loadOp_T
set_option maxRecDepth 100000 in
set_option maxHeartbeats 1000000 in
theorem step_any (t : Tab) (p : Lie) (X : Array Value) (hX : (tabCells t p).toArray = X) (s : Int) (b : UInt8) (w : World) (h : TabAt w t p) :
    Calls Try.prog 11 #[.agg X, .int .i64 s, .int .u8 (b.toNat : Int)] w fun e w' => e = .returned (.int .i64 (stepP t s b)) ∧ Below w.heap.size w w' := by
  have hi := TabIn.new h
  have hb : Below w.heap.size w (w.alloc (.cells (tabCells t p).toArray 30)) := (Below.refl _ _).alloc (Nat.le_refl _) _
  rw [hX] at hi hb
  have hall := hi.read.all
  rw [hX] at hall
  have hc1 := hi.dmany
  have hc2 := hi.next
  have hc3 := hi.tags
  have HI := Lib.hid hi
  have HB := Lib.hid hb
  have HQ := Lib.hid (right_agg t p X hX _ hi.at_)
  have htl := h.tags.len
  have hnl := h.next.len
  unfold maxLen at htl hnl
  have HO := Lib.hid h.of
  have HR : Hid (stepP t s b = if s < 0 ∨ (t.tags.length : Int) ≤ s ∨ tabRightB t = false then -1 else t.next.getD (s.toNat * t.dmany.toNat + classZ t b) 0) := show _ = _ from rfl
  clear h hi hb hX
  generalize stepP t s b = R at *
  by_cases h0 : s < 0
  · have HR2 : Hid (R = -1) := by show _ = _; rw [HR.out, if_pos (.inl h0)]
    go_enter Try.func11, Try.ntmps11
    go_wp2
    go_ret
    exact ⟨ret_int HR2.out.symm, HB.out⟩
  · by_cases hge : (t.tags.length : Int) ≤ s
    · have HR2 : Hid (R = -1) := by show _ = _; rw [HR.out, if_pos (.inr (.inl hge))]
      go_enter Try.func11, Try.ntmps11
      go_wp2
      go_ret
      exact ⟨ret_int HR2.out.symm, HB.out⟩
    · cases hr : tabRightB t with
      | false =>
        have HR2 : Hid (R = -1) := by show _ = _; rw [HR.out, if_pos (.inr (.inr hr))]
        rw [hr] at HQ
        clear hr
        go_enter Try.func11, Try.ntmps11
        go_wp2_with (go_at_call 9; refine HQ.out.mono ?_; rintro e w2 ⟨rfl, hb2⟩)
        go_ret
        exact ⟨ret_int HR2.out.symm, HB.out.trans (hb2.mono HB.out.size)⟩
      | true =>
        have hrt := (rightT_iff t).1 hr
        have HR2 : Hid (R = t.next.getD (s.toNat * t.dmany.toNat + classZ t b) 0) := by show _ = _; rw [HR.out, if_neg (by rw [hr]; rintro (h | h | h) <;> first | omega | cases h)]
        obtain ⟨n, rfl⟩ : ∃ n : Nat, s = n := ⟨s.toNat, by omega⟩
        obtain ⟨hbl, hbe⟩ := class_at HO.out b
        have hin := step_in hrt HO.out n (by omega) b
        have hcb := HI.out.byte b.toNat hbl
        obtain ⟨nb, no, hna, hcell⟩ := HI.out.at_.next.at_ hin
        have hd0 := hrt.lo
        have hd1 := hrt.hi
        have hqq : (n : Int) * t.dmany = ((n * t.dmany.toNat : Nat) : Int) := by rw [Int.natCast_mul, Int.toNat_of_nonneg (by omega)]
        have HR3 : Hid (R = t.next[n * t.dmany.toNat + classZ t b]) := by
          show _ = _
          rw [HR2.out, Int.toNat_natCast, List.getD_eq_getElem?_getD, List.getElem?_eq_getElem hin]
          rfl
        rw [hbe, show (t.of.getD b.toNat 0).toNat = classZ t b from rfl] at hcb
        rw [hr] at HQ
        have hcl : classZ t b ≤ 255 := by have := (t.of.getD b.toNat 0).toNat_lt; unfold classZ; omega
        have hbb := b.toNat_lt
        have hn5 := hrt.thi
        have hnt : n < t.tags.length := by omega
        have hql : n * t.dmany.toNat ≤ 5000 * 256 := Nat.mul_le_mul (by omega) (by omega)
        generalize t.next[n * t.dmany.toNat + classZ t b] = z at *
        generalize hqe : n * t.dmany.toNat = q at *
        generalize classZ t b = c at *
        clear hqe hr hrt HR HR2 HO hbe
        rw [hna] at hc2
        generalize b.toNat = bn at *
        go_enter Try.func11, Try.ntmps11
        go_wp2_with (go_at_call 9; refine HQ.out.mono ?_; rintro e w2 ⟨rfl, hb2⟩)
        have hz : (w.alloc (.cells X 30)).heap.size = w.heap.size + 1 := by simp
        have hlt : w.heap.size < (w.alloc (.cells X 30)).heap.size := by omega
        have e1 := (hb2.cell (p := ⟨w.heap.size, 257, none⟩) hlt).trans hc1
        have e2 := (hb2.cell (p := ⟨w.heap.size, 258, none⟩) hlt).trans hc2
        have e3 := (hb2.cell (p := ⟨w.heap.size, bn, none⟩) hlt).trans hcb
        have hnb : nb < (w.alloc (.cells X 30)).heap.size := by
          have := World.block_lt_of_cell? _ _ hcell
          exact this
        have e4 := (hb2.cell (p := ⟨nb, no + (q + c), none⟩) hnb).trans hcell
        have HBE := Lib.hid (HB.out.trans (hb2.mono HB.out.size))
        clear hc1 hc2 hc3 hcb hcell hb2 hlt hz hnb hall
        have f1 : IntKind.i64.wrap ((n : Int) * t.dmany) = (q : Int) := by rw [hqq]; exact IntWalk.i64_in _ (by omega)
        have f2 : IntKind.i64.wrap ((q : Int) + (c : Int)) = ((q + c : Nat) : Int) := by rw [Int.natCast_add]; exact IntWalk.i64_in _ (by omega)
        have f3 : IntKind.i64.wrap (c : Int) = (c : Int) := IntWalk.i64_in _ (by omega)
        have f4 : (0 : Int) ≤ ((q + c : Nat) : Int) := by omega
        have f5 : ((q + c : Nat) : Int) < (t.next.length : Int) := by omega
        have f6 : (bn : Int) < 256 := by omega
        have f7 : (0 : Int) ≤ (bn : Int) := by omega
        clear hqq
        go_quiet (fail)
        go_wp2
        go_ret
        exact ⟨ret_int HR3.out.symm, below_drewN HBE.out nq⟩
end Go.Proofs.Ytkgfjapflpjdbaa
