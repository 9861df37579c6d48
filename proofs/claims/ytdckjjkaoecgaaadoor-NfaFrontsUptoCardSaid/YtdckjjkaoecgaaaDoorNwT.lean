/-
  The contracts of bits.TrailingZeros64 and of nfa.has, nfa's blank, put, has of marks. Conditions: the library's table lies as its text says; a byte; the place lies within the marks.
-/
import Derived.Test.YtdckjjkaoecgaaaDoorNwP
import Derived.Test.YtdckjjkaoecgaaaDoorNbM
import Derived.Test.YtdckjjkaoecgaaaDoorRxB
import Derived.Shelf.Spec.TrailingZeros
import Derived.BigQuiet
namespace Go.Proofs.YtdckjjkaoecgaaaDoor
open Go.RowKit Go.Shelf

theorem wp_last' {P : Program} {c : Code} {Q : Exit → Act → World → Prop} {a : Act} {w : World} (h : ∀ K : Act → World → Prop, (∀ a w, Q .normal a w → K a w) → c.wp P (Exit.then K (fun _ _ _ => False)) a w) : c.wp P Q a w :=
  Go.wp_mono (h (Q .normal) fun _ _ h => h) (fun e a w hq => by cases e <;> first | exact hq | exact hq.elim)
/-- the library's table -/
def TzAt (w : World) : Prop := TabAt 0 Lib.deBruijn64tab w
theorem TzAt.below {w w' : World} {B : Nat} (h : TzAt w) (hg : 0 < B) (hb : Below B w w') : TzAt w' := fun j hj => (hb.cell (p := ⟨0, j, none⟩) hg).trans (h j hj)
set_option maxHeartbeats 1000000 in
theorem tz64_core' (x k idx : Nat) (w : World) (hx0 : ((x : Int) == 0) = false)
    (key : IntKind.u64.wrap (bits BinOp.and IntKind.u64 (x : Int) (IntKind.u64.wrap (-(x : Int))) * 285870213051353865) / 288230376151711744 = (idx : Int))
    (hi : idx < 64) (hk : k < 64) (hcell : w.cell? ⟨0, idx, none⟩ = some (.int .u8 k)) :
    Calls Tryd.prog 70 #[.int .u64 x] w fun e w' => e = .returned (.int .i64 k) ∧ w' = w := by
  go_enter Tryd.func70, Tryd.ntmps70
  go_wp2_with (simp only [key])
  go_ret
  exact ⟨rfl, rfl⟩
theorem tz64_any (x : Nat) (hx : x < 18446744073709551616) (hx0 : x ≠ 0) (w : World) (hT : TzAt w) :
    Calls Tryd.prog 70 #[.int .u64 x] w fun e w' => e = .returned (.int .i64 (Lib.ctz 64 x)) ∧ w' = w := by
  obtain ⟨hlow, hk⟩ := Lib.lowest_bit 64 x hx0 hx
  obtain ⟨hi, htab⟩ := Lib.deBruijn64_at _ hk
  have hcell := hT _ hi
  rw [htab] at hcell
  exact tz64_core' x _ _ w (by simp; omega) (tz64_key x _ hx hx0 hlow) hi hk hcell
theorem bit_test (x k : Nat) (hx : x < 18446744073709551616) : (bits BinOp.and IntKind.u64 ((x : Int) / 2 ^ k) 1 == 1) = x.testBit k := by
  have h1 : x / 2 ^ k < 18446744073709551616 := Nat.lt_of_le_of_lt (Nat.div_le_self _ _) hx
  have h2 := bits_and_u64_nat (x / 2 ^ k) 1 h1 (by decide)
  have h3 : (x / 2 ^ k) &&& 1 = x / 2 ^ k % 2 := by
    have := Nat.and_two_pow_sub_one_eq_mod (x / 2 ^ k) 1
    rwa [show (2 : Nat) ^ 1 - 1 = 1 from rfl, show (2 : Nat) ^ 1 = 2 from rfl] at this
  rw [h3] at h2
  have h4 : ((x : Int) / 2 ^ k) = ((x / 2 ^ k : Nat) : Int) := by rw [Int.natCast_ediv]; norm_cast
  rw [h4, show (1 : Int) = ((1 : Nat) : Int) from rfl, h2, Nat.testBit_eq_decide_div_mod_eq]
  generalize x / 2 ^ k % 2 = m
  rw [Bool.eq_iff_iff, beq_iff_eq, decide_eq_true_iff]
  omega
/-- a row of words -/
def wordsV (ws : List Nat) : Array Value := (ws.map fun (x : Nat) => Value.int .u64 (x : Int)).toArray
theorem wordsV_size (ws : List Nat) : (wordsV ws).size = ws.length := by simp [wordsV]
theorem wordsV_at {ws : List Nat} {i : Nat} (h : i < ws.length) : (wordsV ws)[i]? = some (.int .u64 ((ws.getD i 0 : Nat) : Int)) := by
  unfold wordsV
  rw [List.getElem?_toArray, List.getElem?_map, List.getElem?_eq_getElem h, List.getD_eq_getElem?_getD, List.getElem?_eq_getElem h]
  rfl
theorem wordsV_set (ws : List Nat) (i x : Nat) : (wordsV ws).setIfInBounds i (.int .u64 (x : Int)) = wordsV (ws.set i x) := by
  unfold wordsV
  rw [List.setIfInBounds_toArray, List.map_set]
set_option maxRecDepth 100000 in
set_option maxHeartbeats 1000000 in
theorem nhas_any (s : NS) (b : Nat) (hb : b < 256) (h0 : s.s0 < 18446744073709551616) (h1 : s.s1 < 18446744073709551616) (h2 : s.s2 < 18446744073709551616) (h3 : s.s3 < 18446744073709551616) (w : World) :
    Calls Tryd.prog 58 #[.agg #[.int .u64 (s.s0 : Int), .int .u64 (s.s1 : Int), .int .u64 (s.s2 : Int), .int .u64 (s.s3 : Int)], .int .u8 (b : Int)] w fun e w' => e = .returned (.bool (inNs s b)) ∧ Below w.heap.size w w' := by
  have HB : Hid (Below w.heap.size w (w.alloc (.cells #[.int .u64 (s.s0 : Int), .int .u64 (s.s1 : Int), .int .u64 (s.s2 : Int), .int .u64 (s.s3 : Int)] 44))) := (Below.refl _ _).alloc (Nat.le_refl _) _
  obtain ⟨x, hx⟩ : ∃ x, x = (if b / 64 = 0 then s.s0 else if b / 64 = 1 then s.s1 else if b / 64 = 2 then s.s2 else s.s3) := ⟨_, rfl⟩
  have hxl : x < 18446744073709551616 := by rw [hx]; (repeat' split) <;> assumption
  have hc : (w.alloc (.cells #[.int .u64 (s.s0 : Int), .int .u64 (s.s1 : Int), .int .u64 (s.s2 : Int), .int .u64 (s.s3 : Int)] 44)).cell? ⟨w.heap.size, b / 64, none⟩ = some (.int .u64 (x : Int)) := by
    rw [(Blk.new w 44 _).cell _, hx]
    have : b / 64 < 4 := by omega
    generalize b / 64 = k at *
    match k, this with
    | 0, _ => rfl
    | 1, _ => rfl
    | 2, _ => rfl
    | 3, _ => rfl
  have HX := Lib.hid hx
  clear hx
  go_enter Tryd.func58, Tryd.ntmps58
  go_wp2
  refine bodyPost_ret (results_tmp rfl _ _ _) rfl ?_
  refine ⟨?_, HB.out⟩
  exact ret_bool (by
    refine (bit_test x (b % 64) hxl).trans ?_
    unfold inNs
    rw [HX.out])
theorem infoW : (Tryd.prog.info? 42).map (fun i => (i.zero, i.size, i.bytes)) = some (some (.int .u64 0), 1, 8) := by kernel_rfl
theorem make_words (W : World) (n : Nat) (hn : n ≤ 10000000) : ∃ wm, (Instr.makeSlice 90 (.int .i64 (n : Int)) (.int .i64 (n : Int))).run Tryd.prog W = .ok (.slice (some ⟨W.heap.size, 0, none⟩) n n) wm ∧ Blk wm W.heap.size 42 (wordsV (List.replicate n 0)) ∧ Below W.heap.size W wm := by
  obtain ⟨i0, hi, hz0, hz1, hz2⟩ := info_parts infoW
  obtain ⟨wm, h1, h2, h3⟩ := run_make_full (P := Tryd.prog) W W.heap.size 90 42 i0 (.int .u64 0) 1 Tryd.underlying90 hi hz0 hz1 .i64 .i64 n (by rw [hz2]; omega) (by unfold maxLen; omega) (Nat.le_refl _)
  refine ⟨wm, h1, ?_, (Below.refl _ _).grown h3 (Nat.le_refl _) (fun k hk => by cases hk)⟩
  rcases h2.2 with ⟨e, _⟩ | ⟨g, cap, cur, e, _, hh, _, _, hcs, ht⟩
  · cases e
  · simp only [Value.slice.injEq, Option.some.injEq, Addr.mk.injEq, and_true, true_and] at e
    obtain ⟨rfl, rfl⟩ := e
    have hcur : cur = wordsV (List.replicate n 0) := by
      apply Array.toList_inj.1
      rw [List.take_of_length_le (by rw [Array.length_toList, hcs]; exact Nat.le_refl _)] at ht
      rw [ht, Nat.mul_one, show (Value.int .u64 0).cells = #[.int .u64 0] from rfl, toList_madeCells_one]
      unfold wordsV
      rw [List.map_replicate]
      rfl
    rw [← hcur]
    exact hh
set_option maxRecDepth 100000 in
set_option maxHeartbeats 1000000 in
theorem blank_any (n q : Nat) (hn : n ≤ 1000000) (hq : q = (n + 63) / 64) (w : World) :
    Calls Tryd.prog 55 #[.int .i64 (n : Int)] w fun e w' => e = .returned (.slice (some ⟨w.heap.size, 0, none⟩) q q) ∧ Blk w' w.heap.size 42 (wordsV (List.replicate q 0)) ∧ Below w.heap.size w w' := by
  have hq2 : ((n : Int) + 63) / 64 = (q : Int) := by omega
  obtain ⟨wm, hmk, hb, hl⟩ := make_words w q (by omega)
  have HB := Lib.hid hb
  have HL := Lib.hid hl
  clear hb hl hq
  go_enter Tryd.func55, Tryd.ntmps55
  go_wp2
  go_ret
  exact ⟨rfl, HB.out, HL.out⟩
set_option maxRecDepth 100000 in
set_option maxHeartbeats 1000000 in
theorem mhas_any (ws : List Nat) (hws : WordsOk ws) (p : Nat) (x m c : Nat) (hp : p < 64 * m) (hm2 : m ≤ 1000000) (hm : ws.length = m) (W : World) (hb : Blk W x 42 (wordsV ws)) :
    Calls Tryd.prog 67 #[.slice (some ⟨x, 0, none⟩) m c, .int .i64 (p : Int)] W fun e W' => e = .returned (.bool (bitAt ws p)) ∧ W' = W := by
  have hc : W.cell? ⟨x, p / 64, none⟩ = some (.int .u64 ((ws.getD (p / 64) 0 : Nat) : Int)) := (hb.cell _).trans (wordsV_at (by omega))
  have hl := words_getD hws (p / 64)
  have HR := Lib.hid (bit_test (ws.getD (p / 64) 0) (p % 64) hl)
  obtain ⟨y, hy⟩ : ∃ y, y = ws.getD (p / 64) 0 := ⟨_, rfl⟩
  have HY := Lib.hid hy
  rw [← hy] at hc hl HR
  have hp64 : (p : Int) / 64 < (m : Int) := by omega
  clear hb hws hm hy
  go_enter Tryd.func67, Tryd.ntmps67
  go_wp2
  refine bodyPost_ret (results_tmp rfl _ _ _) rfl ?_
  refine ⟨?_, rfl⟩
  exact ret_bool (by
    refine HR.out.trans ?_
    unfold bitAt
    rw [HY.out])
theorem or_pow (x k : Nat) (hx : x < 18446744073709551616) (hk : k < 64) : bits BinOp.or IntKind.u64 (x : Int) (IntKind.u64.wrap (2 ^ k)) = ((x ||| 2 ^ k : Nat) : Int) := by
  have hp : 2 ^ k < 18446744073709551616 := Nat.lt_of_lt_of_le (Nat.pow_lt_pow_right (by decide) hk) (by decide)
  have hw : IntKind.u64.wrap (2 ^ k) = ((2 ^ k : Nat) : Int) := by
    have : ((2 : Int) ^ k) = ((2 ^ k : Nat) : Int) := by norm_cast
    rw [this]
    generalize 2 ^ k = p at *
    unfold IntKind.wrap
    simp [IntKind.bits, IntKind.signed]
    omega
  rw [hw, bits_or_u64_nat x _ hx hp]
set_option maxRecDepth 100000 in
set_option maxHeartbeats 1000000 in
theorem mput_any (ws : List Nat) (hws : WordsOk ws) (p : Nat) (x m c : Nat) (hp : p < 64 * m) (hm2 : m ≤ 1000000) (hm : ws.length = m) (W : World) (hb : Blk W x 42 (wordsV ws)) :
    Calls Tryd.prog 68 #[.slice (some ⟨x, 0, none⟩) m c, .int .i64 (p : Int)] W fun e W' => (∃ v, e = .returned v) ∧ Blk W' x 42 (wordsV (putW ws p)) ∧ W' = (W.setCell ⟨x, p / 64, none⟩ (.int .u64 ((ws.getD (p / 64) 0 ||| 2 ^ (p % 64) : Nat) : Int))).drew := by
  have hc : W.cell? ⟨x, p / 64, none⟩ = some (.int .u64 ((ws.getD (p / 64) 0 : Nat) : Int)) := (hb.cell _).trans (wordsV_at (by omega))
  have hf := hb.frozen (p / 64)
  have hl := words_getD hws (p / 64)
  have hor := or_pow (ws.getD (p / 64) 0) (p % 64) hl (by omega)
  have HS := Lib.hid (hb.set_ (p / 64) (.int .u64 ((ws.getD (p / 64) 0 ||| 2 ^ (p % 64) : Nat) : Int)))
  rw [wordsV_set] at HS
  have HP : Hid (putW ws p = ws.set (p / 64) (ws.getD (p / 64) 0 ||| 2 ^ (p % 64))) := rfl
  generalize putW ws p = ws' at *
  generalize ws.getD (p / 64) 0 ||| 2 ^ (p % 64) = z at *
  generalize ws.getD (p / 64) 0 = y at *
  have hp64 : (p : Int) / 64 < (m : Int) := by omega
  clear hb hws hm
  go_enter Tryd.func68, Tryd.ntmps68
  refine wp_last' ?_
  intro K hK
  go_region
  refine hK _ _ ?_
  go_end0
  refine ⟨⟨_, rfl⟩, ?_, rfl⟩
  rw [HP.out]
  exact HS.out.drew
end Go.Proofs.YtdckjjkaoecgaaaDoor
