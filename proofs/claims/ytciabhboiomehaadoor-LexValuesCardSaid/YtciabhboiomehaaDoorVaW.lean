/-
  LexValues answers true for 1 to 20 bytes: its walk. Conditions: the bytes lie in memory; the library's tables lie as their texts lay them.
-/
import Derived.Test.YtciabhboiomehaaDoorVaA
namespace Go.Proofs.YtciabhboiomehaaDoor
open Go.RowKit

/-- bytes that came in -/
structure VaRow (w : World) (g off : Nat) (l : List UInt8) : Prop where
  glt : g < w.heap.size
  cells : ∀ j, (h : j < l.length) → w.cell? ⟨g, off + j, none⟩ = some (.int .u8 ((l[j]'h).toNat : Int))
def baseCells : Array Value := #[.string ⟨#[120]⟩, .string ⟨#[48]⟩, .int .i64 16, .string ⟨#[100]⟩, .string ⟨#[48]⟩, .int .i64 10, .string ⟨#[98]⟩, .string ⟨#[]⟩, .int .i64 2]
theorem tail_slice (g off m c : Nat) (h : m + 1 ≤ c) : ∃ a' : Option Addr, (0 < m → a' = some ⟨g, off + 1, none⟩) ∧ ∀ W, (Instr.slice 22 (.slice (some ⟨g, off, none⟩) (m + 1) c) (some (.int .i64 1)) none none).run Tryd.prog W = .ok (.slice a' m (c - 1)) W := by
  by_cases h1 : c = 1
  · subst h1
    refine ⟨some ⟨g, off, none⟩, fun h => by omega, fun W => ?_⟩
    rw [run_slice_l W 22 _ _ _ (by kernel_rfl) .i64 1 (by omega) (by omega)]
    go_simp
    omega
  · refine ⟨some ⟨g, off + 1, none⟩, fun _ => rfl, fun W => ?_⟩
    rw [run_slice_l W 22 _ _ _ (by kernel_rfl) .i64 1 (by omega) (by omega)]
    go_simp
theorem dots_app (D : UInt8 → List UInt8) (a b : List UInt8) : dotsP D (a ++ b) = dotsP D a ++ dotsP D b := by
  induction a with
  | nil => rfl
  | cons x a ih => simp [dotsP, ih]
theorem vaRow_snoc (sg : UInt8) (base : Nat) (x : UInt8) (a : List UInt8) (z : UInt8) : vaRow sg base x (a ++ [z]) = vaRow sg base x a ++ (46 :: digsP base z.toNat) := by
  unfold vaRow
  rw [dots_app]
  simp [dotsP]
theorem VaBase.pad_len {sg : UInt8} {pad : List UInt8} {base : Nat} (h : VaBase sg pad base) : pad.length ≤ 1 := by
  rcases h with ⟨_, rfl, _⟩ | ⟨_, rfl, _⟩ | ⟨_, rfl, _⟩ <;> decide
theorem gr_false (l : List UInt8) : l.map (grC false) = l := by
  conv => rhs; rw [← List.map_id l]
  rfl
theorem digs_ascii (base : Nat) (h : base = 16 ∨ base = 10 ∨ base = 2) (x : UInt8) : ∀ c ∈ digsP base x.toNat, c.toNat < 128 := by
  rcases h with rfl | rfl | rfl
  · exact va_byte (p := fun x => ∀ c ∈ digsP 16 x.toNat, c.toNat < 128) (by decide +kernel) x
  · exact va_byte (p := fun x => ∀ c ∈ digsP 10 x.toNat, c.toNat < 128) (by decide +kernel) x
  · exact va_byte (p := fun x => ∀ c ∈ digsP 2 x.toNat, c.toNat < 128) (by decide +kernel) x
theorem dots_ascii (D : UInt8 → List UInt8) (hD : ∀ b, ∀ c ∈ D b, c.toNat < 128) (r : List UInt8) : ∀ c ∈ dotsP D r, c.toNat < 128 := by
  induction r with
  | nil => intro c hc; cases hc
  | cons x r ih =>
    intro c hc
    simp only [dotsP, List.mem_cons, List.mem_append] at hc
    rcases hc with rfl | hc | hc
    · decide
    · exact hD x c hc
    · exact ih c hc
theorem vaText_ascii {sg : UInt8} {pad : List UInt8} {base : Nat} (h : VaBase sg pad base) (x : UInt8) (r : List UInt8) (lo hi : UInt8) : ∀ (j : Nat) (b : UInt8), (vaText sg pad base x r lo hi)[j]? = some b → b.toNat < 128 := by
  intro j b hj
  have hm := List.mem_of_getElem? hj
  have hs : sg.toNat < 128 ∧ ∀ c ∈ pad, c.toNat < 128 := by
    rcases h with ⟨rfl, rfl, _⟩ | ⟨rfl, rfl, _⟩ | ⟨rfl, rfl, _⟩ <;> decide
  have hd := digs_ascii base h.three
  simp only [vaText, vaRow, List.mem_append] at hm
  rcases hm with (((((((hm | ((hm | hm) | hm)) | hm) | hm) | hm) | hm) | hm) | hm)
  · clear hj; revert b; decide
  · simp only [List.mem_cons, List.not_mem_nil, or_false] at hm
    rcases hm with rfl | rfl
    · decide
    · exact hs.1
  · exact hd x b hm
  · exact dots_ascii _ hd r b hm
  · clear hj; revert b; decide
  · simp only [List.mem_cons, List.not_mem_nil, or_false] at hm
    subst hm
    exact hs.1
  · exact hs.2 b hm
  · exact hd lo b hm
  · clear hj; revert b; decide
  · exact hd hi b hm
theorem digs_len (base : Nat) (h : base = 16 ∨ base = 10 ∨ base = 2) (x : UInt8) : (digsP base x.toNat).length ≤ 8 := by
  rcases h with rfl | rfl | rfl
  · exact va_byte (p := fun x => (digsP 16 x.toNat).length ≤ 8) (by decide +kernel) x
  · exact va_byte (p := fun x => (digsP 10 x.toNat).length ≤ 8) (by decide +kernel) x
  · exact va_byte (p := fun x => (digsP 2 x.toNat).length ≤ 8) (by decide +kernel) x
theorem base_row (k : Nat) (h : k < 3) : ∃ sg pad base, VaBase sg pad base ∧ baseCells[k * 3]? = some (.string (bs [sg])) ∧ baseCells[k * 3 + 1]? = some (.string (bs pad)) ∧ baseCells[k * 3 + 2]? = some (.int .i64 (base : Nat)) := by
  match k, h with
  | 0, _ => exact ⟨120, [48], 16, .inl ⟨rfl, rfl, rfl⟩, rfl, rfl, rfl⟩
  | 1, _ => exact ⟨100, [48], 10, .inr (.inl ⟨rfl, rfl, rfl⟩), rfl, rfl, rfl⟩
  | 2, _ => exact ⟨98, [], 2, .inr (.inr ⟨rfl, rfl, rfl⟩), rfl, rfl, rfl⟩

set_option maxRecDepth 1000000 in
set_option maxHeartbeats 8000000 in
theorem LexValues_main (g off c : Nat) (x : UInt8) (r : List UInt8) (great : Bool) (w : World) (hl : VaRow w g off (x :: r)) (hr : r.length ≤ 19) (hrc : r.length + 1 ≤ c) (ht : VaTab w) :
    Calls Tryd.prog 3 #[.slice (some ⟨g, off, none⟩) (r.length + 1) c, .bool great] w fun e w' => e = .returned (.bool true) ∧ Below w.heap.size w w' := by
  obtain ⟨y, hy⟩ : ∃ y, (x :: r)[r.length]'(by simp) = y := ⟨_, rfl⟩
  have hc0 : w.cell? ⟨g, off, none⟩ = some (.int .u8 (x.toNat : Int)) := hl.cells 0 (by simp)
  have hc1 : w.cell? ⟨g, off + r.length, none⟩ = some (.int .u8 (y.toNat : Int)) := by rw [hl.cells r.length (by simp), hy]
  obtain ⟨lo, hi, hmin, hmax, hlo⟩ : ∃ lo hi : UInt8, min (x.toNat : Int) (y.toNat : Int) = (lo.toNat : Int) ∧ max (x.toNat : Int) (y.toNat : Int) = (hi.toNat : Int) ∧ lo.toNat ≤ hi.toNat := by
    by_cases h : x.toNat ≤ y.toNat
    · exact ⟨x, y, by omega, by omega, h⟩
    · exact ⟨y, x, by omega, by omega, by omega⟩
  have HLO := Lib.hid hlo
  have HL := Lib.hid hl
  have HT := Lib.hid ht
  clear hlo hy hl ht
  have hxb : (x.toNat : Int) ≤ 255 := by have := x.toNat_lt; omega
  have hyb : (y.toNat : Int) ≤ 255 := by have := y.toNat_lt; omega
  generalize hxn : (x.toNat : Int) = xn at *
  generalize hyn : (y.toNat : Int) = yn at *
  have HXN := Lib.hid hxn
  have HYN := Lib.hid hyn
  clear hxn hyn
  generalize hm : r.length = m at *
  have HM := Lib.hid hm
  clear hm
  have hg1 : ¬ (20 : Int) < (m : Int) + 1 := by omega
  have hg2 : ((m : Int) + 1 == 0) = false := by rw [beq_eq_false_iff_ne]; omega
  go_enter Tryd.func3, Tryd.ntmps3
  go_wp2
  go_region
  go_wp2
  obtain ⟨W0, HW0⟩ : ∃ W0 : World, Hid (W0 = (w.alloc (.cells baseCells 24)).drew) := ⟨_, rfl⟩
  have hb0 : Below w.heap.size w W0 := by rw [HW0.out]; exact ((Below.refl _ _).alloc (Nat.le_refl _) _).drew
  have HBK : Hid (Blk W0 w.heap.size 24 baseCells) := by rw [HW0.out]; exact Blk.new w 24 baseCells
  have HB0 := Lib.hid hb0
  have HT0 := Lib.hid (HT.out.below hb0 HT.out.hi)
  have HL0 : Hid (VaRow W0 g off (x :: r)) := ⟨by have := HL.out.glt; have := hb0.size; omega, fun j hj => (hb0.cell (p := ⟨g, off + j, none⟩) HL.out.glt).trans (HL.out.cells j hj)⟩
  clear hb0 hc0 hc1 hmin hmax hxb hyb hg1 hg2 HL HT
  go_loopg [51] 3 (fun gi iv wr => ∃ k : Nat, iv = .int .i64 k ∧ k ≤ 3 ∧ gi = 3 - k ∧ Hid (Below W0.heap.size W0 wr))
  case atStart => exact ⟨0, rfl, by omega, rfl, by rw [HW0.out]; exact Below.refl _ _⟩
  case round =>
    obtain ⟨k, rfl, hk3, rfl, HBW⟩ := hrel
    by_cases hlt : k < 3
    · obtain ⟨sg, pad, base, hbase, hk0, hk1, hk2⟩ := base_row k hlt
      have hblk := HBK.out.below HBW.out HBK.out.lt
      have hq0 : wr.cell? ⟨w.heap.size, k * 3, none⟩ = some (.string (bs [sg])) := (hblk.cell _).trans hk0
      have hq1 : wr.cell? ⟨w.heap.size, k * 3 + 1, none⟩ = some (.string (bs pad)) := (hblk.cell _).trans hk1
      have hq2 : wr.cell? ⟨w.heap.size, k * 3 + 2, none⟩ = some (.int .i64 (base : Nat)) := (hblk.cell _).trans hk2
      have HBASE := Lib.hid hbase
      clear hbase hk0 hk1 hk2 hblk
      have hlt' : (k : Int) < 3 := by omega
      have h0' : (0 : Int) ≤ k := by omega
      go_upto_region 8 with (fail)
      have HM1 : Hid (VaMem W0 (wr.alloc (.cells #[.string (bs [sg]), .string (bs pad), .int .i64 (base : Int)] 24)) g off (x :: r) wr.heap.size [sg] pad base) := by
        have hN := Blk.new wr 24 #[.string (bs [sg]), .string (bs pad), .int .i64 (base : Int)]
        have hBw : Below W0.heap.size W0 (wr.alloc (.cells #[.string (bs [sg]), .string (bs pad), .int .i64 (base : Int)] 24)) := HBW.out.alloc HBW.out.size _
        exact ⟨hBw, hN.lt, by have := HL0.out.glt; have := hBw.size; omega, hN.cell 0, hN.cell 1, hN.cell 2, fun j hj => (hBw.cell (p := ⟨g, off + j, none⟩) HL0.out.glt).trans (HL0.out.cells j hj), HT0.out.below hBw HT0.out.hi⟩
      clear hq0 hq1 hq2 HBW
      generalize wr.alloc (.cells #[.string (bs [sg]), .string (bs pad), .int .i64 (base : Int)] 24) = W1 at *
      generalize wr.heap.size = B at *
      have HOF : Hid (∀ (u : UInt8) (W : World), VaMem W0 W g off (x :: r) B [sg] pad base → Calls Tryd.prog 5 #[.int .u8 (u.toNat : Int), .pointer (some ⟨B, 0, none⟩)] W fun e w' => e = .returned (.string (bs (digsP base u.toNat))) ∧ VaMem W0 w' g off (x :: r) B [sg] pad base) :=
        fun u W h => (of_any u base HBASE.out.three B W h.c2 h.tab).mono fun e w' ⟨he, hb⟩ => ⟨he, h.below hb⟩
      have HMD := Lib.hid HM1.out.drew
      have HS1 : Hid (W1.cell? ⟨B, 0, none⟩ = some (.string (bs [sg])) ∧ W1.cell? ⟨g, off, none⟩ = some (.int .u8 xn)) := ⟨HM1.out.c0, by rw [← HXN.out]; exact HM1.out.first⟩
      have HS2 : Hid (W1.drew.cell? ⟨B, 0, none⟩ = some (.string (bs [sg])) ∧ W1.drew.cell? ⟨g, off, none⟩ = some (.int .u8 xn)) := ⟨HMD.out.c0, by rw [← HXN.out]; exact HMD.out.first⟩
      obtain ⟨d0, HD0⟩ : ∃ d0, Hid (bs (digsP base x.toNat) = d0) := ⟨_, rfl⟩
      have hd0 : d0.size ≤ 8 := by rw [← HD0.out, bs_size]; exact digs_len base HBASE.out.three x
      have HC8 : Hid (Calls Tryd.prog 5 #[.int .u8 xn, .pointer (some ⟨B, 0, none⟩)] W1.drew fun e w' => e = .returned (.string d0) ∧ VaMem W0 w' g off (x :: r) B [sg] pad base) := by
        have := HOF.out x W1.drew HMD.out
        rw [HXN.out, HD0.out] at this
        exact this
      have hsg : (bs [sg]).size ≤ 1 := by rw [bs_size]; exact Nat.le_refl _
      generalize hSG : bs [sg] = SG at *
      have hp1 : ¬ 9223372036854775807 < 1 + SG.size := by omega
      have hp2 : ¬ 9223372036854775807 < 1 + SG.size + d0.size := by omega
      go_region_held3 (fun W => W.cell? ⟨B, 0, none⟩ = some (.string SG) ∧ W.cell? ⟨g, off, none⟩ = some (.int .u8 xn))
        (first | (with_reducible exact HS1.out) | (with_reducible exact HS2.out) | (with_reducible exact HS3.out))
        ((go_at_call 5; refine HC8.out.mono ?_; rintro e w5 ⟨rfl, hm5⟩; have HM5 := Lib.hid hm5; have HS3 : Hid (w5.cell? ⟨B, 0, none⟩ = some (.string SG) ∧ w5.cell? ⟨g, off, none⟩ = some (.int .u8 xn)) := ⟨by rw [← hSG]; exact hm5.c0, by rw [← HXN.out]; exact hm5.first⟩; clear hm5))
      obtain ⟨a', ha', hsl⟩ := tail_slice g off m c hrc
      have HR0 : Hid ((({ data := #[37] } : ByteArray) ++ SG ++ d0).data.toList = vaRow sg base x (r.take 0)) := by
        show _ = _
        rw [← HD0.out, ← hSG]
        simp [vaRow, dotsP, ByteArray.data_append, bs]
      have hr0 : (({ data := #[37] } : ByteArray) ++ SG ++ d0).size ≤ 10 := by
        rw [ByteArray.size_append, ByteArray.size_append]
        show 1 + SG.size + d0.size ≤ 10
        omega
      clear hp1 hp2 HS1 HS2 HS3 HMD HC8 HM1
      have HSG := Lib.hid hSG
      clear hSG
      go_wp2_with fail
      go_loopw [10, 68] (fun row i wr2 => ∃ (j : Nat) (R : ByteArray), row = .string R ∧ i = .int .i64 j ∧ j ≤ m ∧ Hid (R.data.toList = vaRow sg base x (r.take j)) ∧ R.size ≤ 10 + 9 * j ∧ Hid (VaMem W0 wr2 g off (x :: r) B [sg] pad base)) (fun _ i _ => m - (intOf i).toNat)
      case atStart => exact ⟨0, _, rfl, rfl, Nat.zero_le _, HR0, by omega, HM5⟩
      case round =>
        obtain ⟨j, R, rfl, rfl, hj, HR, hRs, HMR⟩ := hrel
        by_cases hjl : j < m
        · obtain rfl := ha' (by omega)
          obtain ⟨z, hz⟩ : ∃ z, r[j]'(by rw [HM.out]; exact hjl) = z := ⟨_, rfl⟩
          have hcz := HMR.out.row (j + 1) (by simp [HM.out]; omega)
          rw [List.getElem_cons_succ, hz, show off + (j + 1) = off + 1 + j from by omega] at hcz
          have HC := Lib.hid (HOF.out z _ HMR.out)
          have hzb := z.toNat_lt
          generalize hdz : bs (digsP base z.toNat) = dz at *
          have hdzs : dz.size ≤ 8 := by rw [← hdz, bs_size]; exact digs_len base HBASE.out.three z
          have HRN : Hid ((R ++ (({ data := #[46] } : ByteArray) ++ dz)).data.toList = vaRow sg base x (r.take (j + 1))) := by
            show _ = _
            rw [← hdz, List.take_succ_eq_append_getElem (by rw [HM.out]; exact hjl), hz, vaRow_snoc, ← HR.out]
            simp [ByteArray.data_append, bs]
          have hrn : (R ++ (({ data := #[46] } : ByteArray) ++ dz)).size ≤ 10 + 9 * (j + 1) := by
            rw [ByteArray.size_append, ByteArray.size_append]
            show R.size + (1 + dz.size) ≤ _
            omega
          generalize (z.toNat : Int) = zn at *
          have HDZ := Lib.hid hdz
          clear hdz hz
          have hjl' : (j : Int) < m := by omega
          have hj0 : (0 : Int) ≤ j := by omega
          go_wp2_with (go_at_call 5; refine HC.out.mono ?_; rintro e w6 ⟨rfl, hm6⟩; have HM6 := Lib.hid hm6; clear hm6)
          go_roundw
          case rel => exact ⟨j + 1, _, rfl, by go_num, by omega, HRN, hrn, HM6⟩
          case measure => simp [intOf]; omega
        · have HR2 : Hid (R.data.toList = vaRow sg base x r) := by
            show _ = _
            rw [HR.out, List.take_of_length_le (by rw [HM.out]; omega)]
          have hRs2 : R.size ≤ 200 := by omega
          clear HR hRs ha'
          obtain ⟨dl, HDL⟩ : ∃ d, Hid (bs (digsP base lo.toNat) = d) := ⟨_, rfl⟩
          obtain ⟨dh, HDH⟩ : ∃ d, Hid (bs (digsP base hi.toNat) = d) := ⟨_, rfl⟩
          obtain ⟨PAD, HPAD⟩ : ∃ d, Hid (bs pad = d) := ⟨_, rfl⟩
          have hdl : dl.size ≤ 8 := by rw [← HDL.out, bs_size]; exact digs_len base HBASE.out.three lo
          have hdh : dh.size ≤ 8 := by rw [← HDH.out, bs_size]; exact digs_len base HBASE.out.three hi
          have hpd : PAD.size ≤ 1 := by rw [← HPAD.out, bs_size]; exact HBASE.out.pad_len
          have HMRD := Lib.hid HMR.out.drew
          have HT1 : Hid (wr.cell? ⟨B, 0, none⟩ = some (.string SG) ∧ wr.cell? ⟨B, 1, none⟩ = some (.string PAD)) := by rw [← HSG.out, ← HPAD.out]; exact ⟨HMR.out.c0, HMR.out.c1⟩
          have HT2 : Hid (wr.drew.cell? ⟨B, 0, none⟩ = some (.string SG) ∧ wr.drew.cell? ⟨B, 1, none⟩ = some (.string PAD)) := by rw [← HSG.out, ← HPAD.out]; exact ⟨HMRD.out.c0, HMRD.out.c1⟩
          have HCL : Hid (Calls Tryd.prog 5 #[.int .u8 (lo.toNat : Int), .pointer (some ⟨B, 0, none⟩)] wr.drew fun e w' => e = .returned (.string dl) ∧ VaMem W0 w' g off (x :: r) B [sg] pad base) := by
            have := HOF.out lo wr.drew HMRD.out
            rw [HDL.out] at this
            exact this
          have HCH : Hid (∀ W, VaMem W0 W g off (x :: r) B [sg] pad base → Calls Tryd.prog 5 #[.int .u8 (hi.toNat : Int), .pointer (some ⟨B, 0, none⟩)] W fun e w' => e = .returned (.string dh) ∧ VaMem W0 w' g off (x :: r) B [sg] pad base) := fun W h => by
            have := HOF.out hi W h
            rw [HDH.out] at this
            exact this
          have hp1 : ¬ 9223372036854775807 < 4 + R.size := by omega
          have hp2 : ¬ 9223372036854775807 < 4 + R.size + 2 := by omega
          have hp3 : ¬ 9223372036854775807 < 4 + R.size + 2 + SG.size := by omega
          have hp4 : ¬ 9223372036854775807 < 4 + R.size + 2 + SG.size + PAD.size := by omega
          have hp5 : ¬ 9223372036854775807 < 4 + R.size + 2 + SG.size + PAD.size + dl.size := by omega
          have hp6 : ¬ 9223372036854775807 < 4 + R.size + 2 + SG.size + PAD.size + dl.size + 1 := by omega
          have hp7 : ¬ 9223372036854775807 < 4 + R.size + 2 + SG.size + PAD.size + dl.size + 1 + dh.size := by omega
          go_wp2_with fail
          go_region_held3 (fun W => W.cell? ⟨B, 0, none⟩ = some (.string SG) ∧ W.cell? ⟨B, 1, none⟩ = some (.string PAD))
            (first | (with_reducible exact HT1.out) | (with_reducible exact HT2.out) | (with_reducible exact HT3.out) | (with_reducible exact HT4.out))
            (first | (go_at_call 5; refine HCL.out.mono ?_; rintro e w7 ⟨rfl, hm7⟩; have HM7 := Lib.hid hm7; have HT3 : Hid (w7.cell? ⟨B, 0, none⟩ = some (.string SG) ∧ w7.cell? ⟨B, 1, none⟩ = some (.string PAD)) := (by rw [← HSG.out, ← HPAD.out]; exact ⟨hm7.c0, hm7.c1⟩); clear hm7) | (go_at_call 5; refine (HCH.out _ HM7.out).mono ?_; rintro e w8 ⟨rfl, hm8⟩; have HM8 := Lib.hid hm8; have HT4 : Hid (w8.cell? ⟨B, 0, none⟩ = some (.string SG) ∧ w8.cell? ⟨B, 1, none⟩ = some (.string PAD)) := (by rw [← HSG.out, ← HPAD.out]; exact ⟨hm8.c0, hm8.c1⟩); clear hm8))
          have HS : Hid ((({ data := #[114, 32, 61, 32] } : ByteArray) ++ R ++ { data := #[32, 37] } ++ SG ++ PAD ++ dl ++ { data := #[45] } ++ dh).data.toList = vaText sg pad base x r lo hi) := by
            show _ = _
            rw [← HDL.out, ← HDH.out, ← HPAD.out, ← HSG.out]
            simp only [ByteArray.data_append, Array.toList_append]
            rw [HR2.out]
            simp [vaText, bs]
          have hSs : (({ data := #[114, 32, 61, 32] } : ByteArray) ++ R ++ { data := #[32, 37] } ++ SG ++ PAD ++ dl ++ { data := #[45] } ++ dh).size ≤ 300 := by
            simp only [ByteArray.size_append]
            show 4 + R.size + 2 + SG.size + PAD.size + dl.size + 1 + dh.size ≤ 300
            omega
          generalize ({ data := #[114, 32, 61, 32] } : ByteArray) ++ R ++ { data := #[32, 37] } ++ SG ++ PAD ++ dl ++ { data := #[45] } ++ dh = S at *
          clear hp1 hp2 hp3 hp4 hp5 hp6 hp7 HT1 HT2 HT3 HT4 HCL HCH HMRD HMR HM7 HOF
          have hRs3 : R.size = (vaRow sg base x r).length := by rw [← HR2.out, listLen]
          have HRS := Lib.hid hRs3
          clear hRs3
          go_upto_if 97 with (fail)
          go_cut [13] (fun v wx => ∃ S' : ByteArray, v = .string S' ∧ Hid (S'.data.toList = (vaText sg pad base x r lo hi).map (grC great)) ∧ Hid (VaMem W0 wx g off (x :: r) B [sg] pad base))
          case first =>
            cases great
            · go_wp2
              go_meet
              exact ⟨S, rfl, by show _ = _; rw [HS.out]; exact (gr_false _).symm, HM8⟩
            · have HUP := Lib.hid (fun W => Tryd.strings_ToUpper_ascii S W (by omega) (by rw [HS.out]; exact vaText_ascii HBASE.out x r lo hi))
              go_wp2_with (go_at_call 7; refine (HUP.out _).mono ?_; rintro e w9 ⟨rfl, hb9⟩)
              have HM9 := Lib.hid (HM8.out.below hb9)
              clear hb9
              go_wp2
              go_meet
              exact ⟨_, rfl, by show (Lib.toUpperA S.data.toList).toArray.toList = _; rw [List.toList_toArray, toUpper_map, HS.out]; rfl, HM9⟩
          case rest =>
            obtain ⟨S', rfl, HS', HM9⟩ := hcut
            obtain ⟨t0, t1, t4, hlex⟩ := va_read sg pad base HBASE.out great x r lo hi HLO.out (by rw [HM.out]; exact hr)
            have HX : Hid (∀ W, Calls Tryd.prog 8 #[.string S'] W fun e w' => Handed W w' ([t0, t1, { kind := 11, place := 4, text := x :: r }, { kind := 12, place := 5 + (R.size : Nat), lo := lo.toNat, hi := hi.toNat }, t4], 0, 0) e) := fun W => by
              have := Lex_any S' W
              rw [HS'.out, hlex, ← HRS.out] at this
              exact this
            clear hlex HS HS' HM8 hSs
            go_wp2_with fail
            refine (HX.out _).mono ?_
            rintro e wa ⟨va, rfl, oa, ba⟩
            have htr := TokRow.of_own oa
            obtain ⟨A, c2, rfl⟩ := htr.len
            obtain ⟨g2, o2, rfl, -, k0, k1, k2, k3, k4, k5, k6⟩ := htr.at_ (k := 2) (t := { kind := 11, place := 4, text := x :: r }) rfl
            obtain ⟨g3, o3, e3, -, q0, q1, q2, q3, q4, q5, q6⟩ := htr.at_ (k := 3) (t := { kind := 12, place := 5 + (R.size : Nat), lo := lo.toNat, hi := hi.toNat }) rfl
            simp only [Option.some.injEq, Addr.mk.injEq] at e3
            obtain ⟨rfl, rfl, -⟩ := e3
            have HMA := Lib.hid (HM9.out.below ba)
            have HCV : ∀ q, (convert 22 9 (.slice (some ⟨g, off, none⟩) (m + 1) c)).run Tryd.prog (wa.drewN q) = .ok (.string (bs (x :: r))) (wa.drewN q) := fun q => by
              have h := run_convert_bytes_back (P := Tryd.prog) (wa.drewN q) 22 9 5 ⟨g, off, none⟩ c (x :: r) (by kernel_rfl) (by kernel_rfl) (by kernel_rfl) fun j hj => by
                rw [Lib.add_plain, World.cell?_drewN]
                exact HMA.out.row j hj
              rw [show (x :: r).length = m + 1 from by rw [List.length_cons, HM.out]] at h
              exact h
            simp only [Nat.reduceMul] at k0 k1 k2 k3 k4 k5 k6 q0 q1 q2 q3 q4 q5 q6
            have q2' : wa.cell? ⟨g2, o2 + 21 + 2, none⟩ = some (.string ⟨#[]⟩) := q2
            clear oa ba HM9 HX htr q2
            have HLOW := Lib.hid HMA.out.low
            have hw5 : IntKind.i64.wrap (5 + (R.size : Int)) = 5 + (R.size : Int) := IntWalk.i64_in _ (by omega)
            clear HMA
            go_wp2_with fail
            go_quiet (fail)
            clear hw5 HCV
            go_wp2
            go_roundg (3 - (k + 1))
            case measure => omega
            case rel => exact ⟨k + 1, by go_num, by omega, rfl, below_drewN HLOW.out _⟩
    · go_wp2_with fail
      refine (awake_any _).mono ?_
      rintro e w9 ⟨rfl, hb9⟩
      go_wp2
      go_ret
      exact ⟨rfl, (HB0.out.trans (HBW.out.mono HB0.out.size)).trans (hb9.mono (by have := HB0.out.size; have := HBW.out.size; omega))⟩
end Go.Proofs.YtciabhboiomehaaDoor
