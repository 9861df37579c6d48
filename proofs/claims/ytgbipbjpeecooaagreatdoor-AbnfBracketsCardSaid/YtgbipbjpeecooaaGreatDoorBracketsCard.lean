/-
  AbnfBrackets answers true for every input, and leaves its arguments as they were: the row, and the tied card. Conditions: the listed tables as the program's text lays them (the card ties them).
-/
import Derived.Test.YtgbipbjpeecooaaGreatDoorB02
import Derived.Test.YtgbipbjpeecooaaGreatDoorTie
import Derived.Test.YtgbipbjpeecooaaGreatDoorCards
import Derived.WalkKit
import Derived.ProofKit
import Derived.OpenShut
import Derived.LaidMore
import Derived.Lay
import Derived.SevenTiedAt
import Derived.Stop.Joined
import Derived.Stop.LaidErr
import Derived.Lib.LaidTab
import Derived.ShutString
import Derived.ChangeOld
import Derived.Below
/-
  AbnfBrackets answers true for all numbers: its walk. Conditions: the numbers lie in memory; the tables abnf.leaves and the library's powers of ten lie where they do.
-/
namespace Go.Proofs.YtgbipbjpeecooaaGreatDoor
open Go.RowKit

theorem of_short (text : List UInt8) (hl : text.length ≤ 65536) (w : World) (hlv : LeavesAt w) : Calls Tryz.prog 21 #[.string (bs text)] w fun e w' => ParseOut w (ofP text) e w' :=
  Of_any text (by have := lexP_len text; omega) (lex_short text hl) w hlv
theorem trim_x (x : List UInt8) (W : World) : Calls Tryz.prog 22 #[.string (bs ([120] ++ [32, 61, 32] ++ x)), .string ⟨#[120, 32, 61, 32]⟩] W fun e w' => e = .returned (.string (bs x)) ∧ W = w' := by
  refine (Tryz.strings_TrimPrefix (bs ([120] ++ [32, 61, 32] ++ x)) ⟨#[120, 32, 61, 32]⟩ W).mono ?_
  rintro e w' ⟨rfl, rfl⟩
  refine ⟨?_, rfl⟩
  rw [bs_toList]
  rfl
theorem print_x (t : Tr) (ht : rightB t = true) : printP [120] false t = ([120] ++ [32, 61, 32] ++ printD 100 t, 0) := by
  unfold printP
  rw [ht]
  rfl
theorem bs_app (x y : List UInt8) : bs x ++ bs y = bs (x ++ y) := by
  apply ByteArray.ext
  simp [bs, ByteArray.data_append]
theorem names_nil : NamesOk [] := ⟨by simp, fun n hn => by cases hn⟩
/-- what a rule's text, back, is in memory -/
theorem one_rule {w w' : World} {x : Rl} {e : Ending} (h : ParseOut w ([x], 0, 0) e w') : ∃ A c sl, e = .returned (.tuple #[.slice A 1 c, .int .i64 0, .int .i64 0]) ∧ RRow w' (.slice A 1 c) [(x, sl)] ∧ Below w.heap.size w w' := by
  obtain ⟨v, rfl, ⟨⟨ps, hps, hown, hkids⟩⟩, hb⟩ := h
  obtain ⟨sl, rfl⟩ : ∃ sl, ps = [(x, sl)] := by
    match ps, hps with
    | [(y, sl)], h =>
      have : y = x := by simpa using h
      subst this
      exact ⟨sl, rfl⟩
  have hrow := RRow.of_own hown hkids
  obtain ⟨A, c, rfl, _⟩ := hrow.row
  exact ⟨A, c, sl, rfl, hrow, hb⟩

set_option maxRecDepth 1000000 in
set_option maxHeartbeats 8000000 in
theorem AbnfBrackets_ok (UA : Option Addr) (uc : Nat) (u : List Nat) (VA : Option Addr) (vc : Nat) (v : List Nat) (mny : Nat) (hmny : mny ≤ 255) (w : World) (hu : NumsAt w UA u) (hv : NumsAt w VA v) (hu2 : u.length ≤ 200) (hv2 : v.length ≤ 200) (hlv : LeavesAt w) (hpw : PowAt w) :
    Calls Tryz.prog 5 #[.slice UA u.length uc, .slice VA v.length vc, .int .u8 (mny : Nat)] w fun e w' => e = .returned (.bool true) ∧ Below w.heap.size w w' := by
  obtain ⟨ra, ya, ta, _⟩ := grown_whole [] names_nil u
  obtain ⟨rb, yb, tb, _⟩ := grown_whole [] names_nil v
  have la := grown_short [] names_nil (fun n hn => by cases hn) u hu2
  have lb := grown_short [] names_nil (fun n hn => by cases hn) v hv2
  have ra50 := right_deeper 7 50 _ (by omega) (grow_ok [] names_nil u 6 0).right
  have rb50 := right_deeper 7 50 _ (by omega) (grow_ok [] names_nil v 6 0).right
  have HGA := Lib.hid (Grown_any UA uc u none 0 [] w hu hu2 (words_none _))
  have HGB := Lib.hid (fun (W : World) (hW : Below w.heap.size w W) => Grown_any VA vc v none 0 [] W (hv.below hW) hv2 (words_none _))
  simp only [List.length_nil] at HGA HGB
  have HWAKE : Hid (∀ W, Below w.heap.size w W → Calls Tryz.prog 10 #[] W fun e w' => e = .returned (.bool true) ∧ Below W.heap.size W w') := fun W hW => awake_any W (hlv.below hW hlv.lt) (hpw.below hW hpw.lt)
  have HLV : Hid (∀ W, Below w.heap.size w W → LeavesAt W) := fun W hW => hlv.below hW hlv.lt
  have HPW : Hid (∀ W, Below w.heap.size w W → PowAt W) := fun W hW => hpw.below hW hpw.lt
  obtain ⟨n, hn⟩ : ∃ n : Nat, n = mny % 41 := ⟨_, rfl⟩
  have hn40 : n ≤ 40 := by omega
  have hmod : (mny : Int) % 41 = (n : Int) := by omega
  have hmod2 : (mny : Int).tmod 41 = (n : Int) := by rw [Int.tmod_eq_emod_of_nonneg (by omega)]; omega
  generalize (growT [] u 6 0).1 = a at *
  generalize (growT [] v 6 0).1 = b at *
  obtain ⟨pa, hof1⟩ := brackets_one n hn40 a ra ya (by omega)
  obtain ⟨pb, hof2⟩ := brackets_two n hn40 a b ra50 rb50 ya yb (by omega) (by omega)
  have hl1 : (ruleA ++ [32, 61, 32] ++ brX n (printD 100 a)).length ≤ 65536 := by
    rw [List.length_append, brX_len]
    show 7 + _ ≤ 65536
    omega
  have hl2 : (ruleB ++ [32, 61, 32] ++ ([40] ++ brX n (printD 100 a) ++ [41] ++ ([32, 47, 32] ++ ([40] ++ printD 100 b ++ [41] ++ ([32] ++ ([40] ++ printD 100 a ++ [41])))))).length ≤ 65536 := by
    simp only [List.length_append, brX_len, List.length_cons, List.length_nil]
    show (4 + 3) + _ ≤ 65536
    omega
  have HPA : Hid (∀ (ap : Option Addr) (ac : Nat) (W : World), KidsAt W (· < W.heap.size) a.kids (.slice ap a.kids.length ac) → PowAt W → Calls Tryz.prog 17 #[.agg #[.string ⟨#[120]⟩, .int .i64 0, .bool false, .int .u8 a.kind, .string (bs a.text), .int .u8 a.lo, .int .u8 a.hi, .int .i64 a.mn, .int .i64 a.mx, .slice ap a.kids.length ac]] W fun e w' => e = .returned (.tuple #[.string (bs ([120] ++ [32, 61, 32] ++ printD 100 a)), .int .i64 0]) ∧ Below W.heap.size W w') := fun ap ac W hk hp => by
    have := Print_any { name := [120], place := 0, more := false, tree := a } (.slice ap a.kids.length ac) W hk ya ta hp (by show 1 ≤ maxLen; unfold maxLen; omega) (by simp only; rw [print_x a ra]; simp only [List.length_append, List.length_cons, List.length_nil]; omega)
    simp only [print_x a ra] at this
    exact this
  have HPB : Hid (∀ (bp : Option Addr) (bc : Nat) (W : World), KidsAt W (· < W.heap.size) b.kids (.slice bp b.kids.length bc) → PowAt W → Calls Tryz.prog 17 #[.agg #[.string ⟨#[120]⟩, .int .i64 0, .bool false, .int .u8 b.kind, .string (bs b.text), .int .u8 b.lo, .int .u8 b.hi, .int .i64 b.mn, .int .i64 b.mx, .slice bp b.kids.length bc]] W fun e w' => e = .returned (.tuple #[.string (bs ([120] ++ [32, 61, 32] ++ printD 100 b)), .int .i64 0]) ∧ Below W.heap.size W w') := fun bp bc W hk hp => by
    have := Print_any { name := [120], place := 0, more := false, tree := b } (.slice bp b.kids.length bc) W hk yb tb hp (by show 1 ≤ maxLen; unfold maxLen; omega) (by simp only; rw [print_x b rb]; simp only [List.length_append, List.length_cons, List.length_nil]; omega)
    simp only [print_x b rb] at this
    exact this
  have HTA := Lib.hid (fun W => trim_x (printD 100 a) W)
  have HTB := Lib.hid (fun W => trim_x (printD 100 b) W)
  have HR1 : Hid (∀ W, Calls Tryz.prog 23 #[.string ⟨#[40]⟩, .int .i64 (n : Nat)] W fun e w' => e = .returned (.string (bs (Lib.repeatL [40] n))) ∧ Below W.heap.size W w') := fun W => Tryz.strings_Repeat ⟨#[40]⟩ n W (by omega) (by show 1 * n ≤ _; omega)
  have HR2 : Hid (∀ W, Calls Tryz.prog 23 #[.string ⟨#[32, 41]⟩, .int .i64 (n : Nat)] W fun e w' => e = .returned (.string (bs (Lib.repeatL [32, 41] n))) ∧ Below W.heap.size W w') := fun W => Tryz.strings_Repeat ⟨#[32, 41]⟩ n W (by omega) (by show 2 * n ≤ _; omega)
  have HO1 : Hid (∀ W, LeavesAt W → Calls Tryz.prog 21 #[.string (({ data := #[82, 117, 108, 101, 32, 61, 32] } : ByteArray) ++ bs (Lib.repeatL [40] n) ++ bs (printD 100 a) ++ bs (Lib.repeatL [32, 41] n))] W fun e w' => ParseOut W ([{ name := ruleC, place := pa, more := false, tree := a }], 0, 0) e w') := fun W hW => by
    have := of_short _ hl1 W hW
    rw [hof1] at this
    rw [show ({ data := #[82, 117, 108, 101, 32, 61, 32] } : ByteArray) = bs (ruleA ++ [32, 61, 32]) from rfl, bs_app, bs_app, bs_app, List.append_assoc, List.append_assoc, ← List.append_assoc (Lib.repeatL [40] n), brX_rep]
    exact this
  have HO2 : Hid (∀ W, LeavesAt W → Calls Tryz.prog 21 #[.string (({ data := #[114, 85, 108, 101, 32, 61, 32, 40] } : ByteArray) ++ bs (Lib.repeatL [40] n) ++ bs (printD 100 a) ++ bs (Lib.repeatL [32, 41] n) ++ ({ data := #[41, 32, 47, 32, 40] } : ByteArray) ++ bs (printD 100 b) ++ ({ data := #[41, 32, 40] } : ByteArray) ++ bs (printD 100 a) ++ ({ data := #[41] } : ByteArray))] W fun e w' => ParseOut W ([{ name := ruleC, place := pb, more := false, tree := orT a b }], 0, 0) e w') := fun W hW => by
    have := of_short _ hl2 W hW
    rw [hof2, ← brX_rep] at this
    rw [show ({ data := #[114, 85, 108, 101, 32, 61, 32, 40] } : ByteArray) = bs (ruleB ++ [32, 61, 32] ++ [40]) from rfl, show ({ data := #[41, 32, 47, 32, 40] } : ByteArray) = bs [41, 32, 47, 32, 40] from rfl, show ({ data := #[41, 32, 40] } : ByteArray) = bs [41, 32, 40] from rfl, show ({ data := #[41] } : ByteArray) = bs [41] from rfl, bs_app, bs_app, bs_app, bs_app, bs_app, bs_app, bs_app, bs_app]
    have e : ∀ (p q r x y : List UInt8), p ++ [40] ++ q ++ x ++ r ++ [41, 32, 47, 32, 40] ++ y ++ [41, 32, 40] ++ x ++ [41] = p ++ ([40] ++ (q ++ x ++ r) ++ [41] ++ ([32, 47, 32] ++ ([40] ++ y ++ [41] ++ ([32] ++ ([40] ++ x ++ [41]))))) := fun p q r x y => by simp
    rw [e]
    exact this
  have sx1 : (bs ([120] ++ [32, 61, 32] ++ printD 100 a)).size ≤ 6000 := by rw [bs_size]; simp only [List.length_append, List.length_cons, List.length_nil]; omega
  have sx2 : (bs ([120] ++ [32, 61, 32] ++ printD 100 b)).size ≤ 6000 := by rw [bs_size]; simp only [List.length_append, List.length_cons, List.length_nil]; omega
  have sx3 : (bs (printD 100 a)).size ≤ 6000 := by rw [bs_size]; omega
  have sx4 : (bs (printD 100 b)).size ≤ 6000 := by rw [bs_size]; omega
  have sx5 : (bs (Lib.repeatL [40] n)).size ≤ 6000 := by rw [bs_size, Lib.repeatL_length]; show n * 1 ≤ 6000; omega
  have sx6 : (bs (Lib.repeatL [32, 41] n)).size ≤ 6000 := by rw [bs_size, Lib.repeatL_length]; show n * 2 ≤ 6000; omega
  have HRA := Lib.hid ta.1
  have HRB := Lib.hid tb.1
  generalize bs ([120] ++ [32, 61, 32] ++ printD 100 a) = PX at *
  generalize bs ([120] ++ [32, 61, 32] ++ printD 100 b) = PY at *
  generalize bs (printD 100 a) = X at *
  generalize bs (printD 100 b) = Y at *
  generalize bs (Lib.repeatL [40] n) = O at *
  generalize bs (Lib.repeatL [32, 41] n) = SH at *
  clear hl1 hl2 hof1 hof2 ra rb ya yb ta tb la lb ra50 rb50 hlv hpw hu hv hn
  go_enter Tryz.func5, Tryz.ntmps5
  go_wp2_with (go_at_call 19; refine HGA.out.mono ?_)
  rintro e w1 ⟨sla, rfl, hka, hb1⟩
  have HG2 := Lib.hid (HGB.out w1 hb1)
  have HB1 := Lib.hid hb1
  obtain ⟨ap, ac, rfl, _⟩ := hka.form
  have HKA := Lib.hid hka
  unfold treeV
  clear hka hb1 HGA HGB
  go_wp2_with (go_at_call 19; refine HG2.out.mono ?_)
  rintro e w2 ⟨slb, rfl, hkb, hb2⟩
  obtain ⟨bp, bc, rfl, _⟩ := hkb.form
  have HKA2 : Hid (KidsAt w2 (· < w2.heap.size) a.kids (.slice ap a.kids.length ac)) := HKA.out.later hb2.size (fun b hl _ => ⟨Nat.lt_of_lt_of_le hl hb2.size, hb2.block b hl⟩)
  have HKB2 : Hid (KidsAt w2 (· < w2.heap.size) b.kids (.slice bp b.kids.length bc)) := hkb.mono (fun b hl _ => hl)
  have HB2 := Lib.hid (HB1.out.trans (hb2.mono HB1.out.size))
  unfold treeV
  clear hkb hb2 HKA HB1 HG2
  have hBa : Blk ((w2.alloc (.cells #[.int .u8 a.kind, .string (bs a.text), .int .u8 a.lo, .int .u8 a.hi, .int .i64 a.mn, .int .i64 a.mx, .slice ap a.kids.length ac] 25)).alloc (.cells #[.int .u8 b.kind, .string (bs b.text), .int .u8 b.lo, .int .u8 b.hi, .int .i64 b.mn, .int .i64 b.mx, .slice bp b.kids.length bc] 25)) w2.heap.size 25 #[.int .u8 a.kind, .string (bs a.text), .int .u8 a.lo, .int .u8 a.hi, .int .i64 a.mn, .int .i64 a.mx, .slice ap a.kids.length ac] := (Blk.new _ _ _).alloc _
  have hBb : Blk ((w2.alloc (.cells #[.int .u8 a.kind, .string (bs a.text), .int .u8 a.lo, .int .u8 a.hi, .int .i64 a.mn, .int .i64 a.mx, .slice ap a.kids.length ac] 25)).alloc (.cells #[.int .u8 b.kind, .string (bs b.text), .int .u8 b.lo, .int .u8 b.hi, .int .i64 b.mn, .int .i64 b.mx, .slice bp b.kids.length bc] 25)) (w2.heap.size + 1) 25 #[.int .u8 b.kind, .string (bs b.text), .int .u8 b.lo, .int .u8 b.hi, .int .i64 b.mn, .int .i64 b.mx, .slice bp b.kids.length bc] := Blk.new_at _ _ _ _ (by simp)
  have hb3 : Below w2.heap.size w2 ((w2.alloc (.cells #[.int .u8 a.kind, .string (bs a.text), .int .u8 a.lo, .int .u8 a.hi, .int .i64 a.mn, .int .i64 a.mx, .slice ap a.kids.length ac] 25)).alloc (.cells #[.int .u8 b.kind, .string (bs b.text), .int .u8 b.lo, .int .u8 b.hi, .int .i64 b.mn, .int .i64 b.mx, .slice bp b.kids.length bc] 25)) := ((Below.refl _ _).alloc (Nat.le_refl _) _).alloc (by simp) _
  have HBA := Lib.hid hBa
  have HBB := Lib.hid hBb
  have HB3 := Lib.hid (HB2.out.trans (hb3.mono HB2.out.size))
  have HKA3 : Hid (KidsAt ((w2.alloc (.cells #[.int .u8 a.kind, .string (bs a.text), .int .u8 a.lo, .int .u8 a.hi, .int .i64 a.mn, .int .i64 a.mx, .slice ap a.kids.length ac] 25)).alloc (.cells #[.int .u8 b.kind, .string (bs b.text), .int .u8 b.lo, .int .u8 b.hi, .int .i64 b.mn, .int .i64 b.mx, .slice bp b.kids.length bc] 25)) (· < ((w2.alloc (.cells #[.int .u8 a.kind, .string (bs a.text), .int .u8 a.lo, .int .u8 a.hi, .int .i64 a.mn, .int .i64 a.mx, .slice ap a.kids.length ac] 25)).alloc (.cells #[.int .u8 b.kind, .string (bs b.text), .int .u8 b.lo, .int .u8 b.hi, .int .i64 b.mn, .int .i64 b.mx, .slice bp b.kids.length bc] 25)).heap.size) a.kids (.slice ap a.kids.length ac)) := (HKA2.out.under hb3).mono (fun b hl _ => hl)
  have HKB3 : Hid (KidsAt ((w2.alloc (.cells #[.int .u8 a.kind, .string (bs a.text), .int .u8 a.lo, .int .u8 a.hi, .int .i64 a.mn, .int .i64 a.mx, .slice ap a.kids.length ac] 25)).alloc (.cells #[.int .u8 b.kind, .string (bs b.text), .int .u8 b.lo, .int .u8 b.hi, .int .i64 b.mn, .int .i64 b.mx, .slice bp b.kids.length bc] 25)) (· < ((w2.alloc (.cells #[.int .u8 a.kind, .string (bs a.text), .int .u8 a.lo, .int .u8 a.hi, .int .i64 a.mn, .int .i64 a.mx, .slice ap a.kids.length ac] 25)).alloc (.cells #[.int .u8 b.kind, .string (bs b.text), .int .u8 b.lo, .int .u8 b.hi, .int .i64 b.mn, .int .i64 b.mx, .slice bp b.kids.length bc] 25)).heap.size) b.kids (.slice bp b.kids.length bc)) := (HKB2.out.under hb3).mono (fun b hl _ => hl)
  clear hBa hBb hb3 HKA2 HKB2
  go_upto_region 5 with fail
  generalize ((w2.alloc (.cells #[.int .u8 a.kind, .string (bs a.text), .int .u8 a.lo, .int .u8 a.hi, .int .i64 a.mn, .int .i64 a.mx, .slice ap a.kids.length ac] 25)).alloc (.cells #[.int .u8 b.kind, .string (bs b.text), .int .u8 b.lo, .int .u8 b.hi, .int .i64 b.mn, .int .i64 b.mx, .slice bp b.kids.length bc] 25)) = W3 at *
  generalize w2.heap.size = Ba at *
  have hcA := HBA.out.cell
  have hcB := HBB.out.cell
  have HP1 := Lib.hid (HPA.out ap ac W3 HKA3.out (HPW.out _ HB3.out))
  go_wp2_with (go_at_call 17; refine HP1.out.mono ?_)
  rintro e w4 ⟨rfl, hb4⟩
  have HB34 := Lib.hid hb4
  have HP2 := Lib.hid (HPB.out bp bc w4 ((HKB3.out.under hb4).mono (fun b hl _ => hl)) (HPW.out _ (HB3.out.trans (hb4.mono HB3.out.size))))
  have hcB4 := (HBB.out.below hb4 HBB.out.lt).cell
  clear hb4 HP1 HPA HPB hcA hcB
  go_wp2_with (go_at_call 17; refine HP2.out.mono ?_)
  rintro e w5 ⟨rfl, hb5⟩
  have HB35 := Lib.hid (HB34.out.trans (hb5.mono HB34.out.size))
  clear hb5 HP2 HB34 hcB4
  go_upto_region 9 with fail
  go_wp2_with (go_at_call 22; (first | (with_reducible refine (HTA.out _).mono ?_) | (with_reducible refine (HTB.out _).mono ?_)); rintro e w' ⟨rfl, rfl⟩)
  go_wp2_with (go_at_call 23; refine (HR1.out _).mono ?_)
  rintro e w6 ⟨rfl, hb6⟩
  have HB36 := Lib.hid (HB35.out.trans (hb6.mono HB35.out.size))
  clear hb6
  go_wp2_with (go_at_call 23; refine (HR2.out _).mono ?_)
  rintro e w7 ⟨rfl, hb7⟩
  have HB37 := Lib.hid (HB36.out.trans (hb7.mono HB36.out.size))
  have HW7 := Lib.hid (HB3.out.trans (HB37.out.mono HB3.out.size))
  clear hb7 HB35 HB36 HTA HTB HR1 HR2
  go_wp2_with (go_at_call 21; refine (HO1.out _ (HLV.out _ HW7.out)).mono ?_)
  intro e w8 h8
  obtain ⟨A1, c1, sl1, rfl, hr1, hb8⟩ := one_rule h8
  have HB38 := Lib.hid (HB37.out.trans (hb8.mono HB37.out.size))
  have HW8 := Lib.hid (HB3.out.trans (HB38.out.mono HB3.out.size))
  have HR8 := Lib.hid hr1
  clear hb8 hr1 h8 HW7 HB37 HO1
  go_wp2_with (go_at_call 21; refine (HO2.out _ (HLV.out _ HW8.out)).mono ?_)
  intro e w9 h9
  obtain ⟨A2, c2, sl2, rfl, hr2, hb9⟩ := one_rule h9
  have HB39 := Lib.hid (HB38.out.trans (hb9.mono HB38.out.size))
  have HR9 := Lib.hid (HR8.out.below hb9)
  have HT9 := Lib.hid hr2
  have hBa9 := HBA.out.below HB39.out HBA.out.lt
  have hBb9 := HBB.out.below HB39.out HBB.out.lt
  have HKA9 : Hid (KidsAt w9 (· < w9.heap.size) a.kids (.slice ap a.kids.length ac)) := (HKA3.out.under HB39.out).mono (fun b hl _ => hl)
  have HKB9 : Hid (KidsAt w9 (· < w9.heap.size) b.kids (.slice bp b.kids.length bc)) := (HKB3.out.under HB39.out).mono (fun b hl _ => hl)
  have HW9 := Lib.hid (HB3.out.trans (HB39.out.mono HB3.out.size))
  have hcA9 := hBa9.cell
  have hcB9 := hBb9.cell
  have hla9 := hBa9.lt
  have hlb9 := hBb9.lt
  have hBa10 : Blk ((w9.alloc (.cells #[.int .u8 b.kind, .string (bs b.text), .int .u8 b.lo, .int .u8 b.hi, .int .i64 b.mn, .int .i64 b.mx, .slice bp b.kids.length bc, .int .u8 a.kind, .string (bs a.text), .int .u8 a.lo, .int .u8 a.hi, .int .i64 a.mn, .int .i64 a.mx, .slice ap a.kids.length ac] 25)).alloc (.cells #[.int .u8 5, .string ⟨#[]⟩, .int .u8 0, .int .u8 0, .int .i64 0, .int .i64 0, .slice (some ⟨w9.heap.size, 0, none⟩) 2 2] 25)) Ba 25 #[.int .u8 a.kind, .string (bs a.text), .int .u8 a.lo, .int .u8 a.hi, .int .i64 a.mn, .int .i64 a.mx, .slice ap a.kids.length ac] := (hBa9.alloc _).alloc _
  have hBk10 : Blk ((w9.alloc (.cells #[.int .u8 b.kind, .string (bs b.text), .int .u8 b.lo, .int .u8 b.hi, .int .i64 b.mn, .int .i64 b.mx, .slice bp b.kids.length bc, .int .u8 a.kind, .string (bs a.text), .int .u8 a.lo, .int .u8 a.hi, .int .i64 a.mn, .int .i64 a.mx, .slice ap a.kids.length ac] 25)).alloc (.cells #[.int .u8 5, .string ⟨#[]⟩, .int .u8 0, .int .u8 0, .int .i64 0, .int .i64 0, .slice (some ⟨w9.heap.size, 0, none⟩) 2 2] 25)) w9.heap.size 25 #[.int .u8 b.kind, .string (bs b.text), .int .u8 b.lo, .int .u8 b.hi, .int .i64 b.mn, .int .i64 b.mx, .slice bp b.kids.length bc, .int .u8 a.kind, .string (bs a.text), .int .u8 a.lo, .int .u8 a.hi, .int .i64 a.mn, .int .i64 a.mx, .slice ap a.kids.length ac] := (Blk.new _ _ _).alloc _
  have hBr10 : Blk ((w9.alloc (.cells #[.int .u8 b.kind, .string (bs b.text), .int .u8 b.lo, .int .u8 b.hi, .int .i64 b.mn, .int .i64 b.mx, .slice bp b.kids.length bc, .int .u8 a.kind, .string (bs a.text), .int .u8 a.lo, .int .u8 a.hi, .int .i64 a.mn, .int .i64 a.mx, .slice ap a.kids.length ac] 25)).alloc (.cells #[.int .u8 5, .string ⟨#[]⟩, .int .u8 0, .int .u8 0, .int .i64 0, .int .i64 0, .slice (some ⟨w9.heap.size, 0, none⟩) 2 2] 25)) (w9.heap.size + 1) 25 #[.int .u8 5, .string ⟨#[]⟩, .int .u8 0, .int .u8 0, .int .i64 0, .int .i64 0, .slice (some ⟨w9.heap.size, 0, none⟩) 2 2] := Blk.new_at _ _ _ _ (by simp)
  have hb10 : Below w9.heap.size w9 ((w9.alloc (.cells #[.int .u8 b.kind, .string (bs b.text), .int .u8 b.lo, .int .u8 b.hi, .int .i64 b.mn, .int .i64 b.mx, .slice bp b.kids.length bc, .int .u8 a.kind, .string (bs a.text), .int .u8 a.lo, .int .u8 a.hi, .int .i64 a.mn, .int .i64 a.mx, .slice ap a.kids.length ac] 25)).alloc (.cells #[.int .u8 5, .string ⟨#[]⟩, .int .u8 0, .int .u8 0, .int .i64 0, .int .i64 0, .slice (some ⟨w9.heap.size, 0, none⟩) 2 2] 25)) := ((Below.refl _ _).alloc (Nat.le_refl _) _).alloc (by simp) _
  have HBA10 := Lib.hid hBa10
  have HBK10 := Lib.hid hBk10
  have HBR10 := Lib.hid hBr10
  have HB10 := Lib.hid hb10
  clear hBa9 hBb9 hBa10 hBk10 hBr10 hb10 hb9 h9 hr2 HB38 HR8 HW8 HO2 HB39 HBA HBB HKA3 HKB3
  go_upto_region 14 with fail
  have hcA10 := HBA10.out.cell
  have hcR10 := HBR10.out.cell
  have hla10 := HBA10.out.lt
  have hlr10 := HBR10.out.lt
  have HKA10 : Hid (KidsAt ((w9.alloc (.cells #[.int .u8 b.kind, .string (bs b.text), .int .u8 b.lo, .int .u8 b.hi, .int .i64 b.mn, .int .i64 b.mx, .slice bp b.kids.length bc, .int .u8 a.kind, .string (bs a.text), .int .u8 a.lo, .int .u8 a.hi, .int .i64 a.mn, .int .i64 a.mx, .slice ap a.kids.length ac] 25)).alloc (.cells #[.int .u8 5, .string ⟨#[]⟩, .int .u8 0, .int .u8 0, .int .i64 0, .int .i64 0, .slice (some ⟨w9.heap.size, 0, none⟩) 2 2] 25)) (· < ((w9.alloc (.cells #[.int .u8 b.kind, .string (bs b.text), .int .u8 b.lo, .int .u8 b.hi, .int .i64 b.mn, .int .i64 b.mx, .slice bp b.kids.length bc, .int .u8 a.kind, .string (bs a.text), .int .u8 a.lo, .int .u8 a.hi, .int .i64 a.mn, .int .i64 a.mx, .slice ap a.kids.length ac] 25)).alloc (.cells #[.int .u8 5, .string ⟨#[]⟩, .int .u8 0, .int .u8 0, .int .i64 0, .int .i64 0, .slice (some ⟨w9.heap.size, 0, none⟩) 2 2] 25)).heap.size) a.kids (.slice ap a.kids.length ac)) := (HKA9.out.under HB10.out).mono (fun b hl _ => hl)
  have HKB10 : Hid (KidsAt ((w9.alloc (.cells #[.int .u8 b.kind, .string (bs b.text), .int .u8 b.lo, .int .u8 b.hi, .int .i64 b.mn, .int .i64 b.mx, .slice bp b.kids.length bc, .int .u8 a.kind, .string (bs a.text), .int .u8 a.lo, .int .u8 a.hi, .int .i64 a.mn, .int .i64 a.mx, .slice ap a.kids.length ac] 25)).alloc (.cells #[.int .u8 5, .string ⟨#[]⟩, .int .u8 0, .int .u8 0, .int .i64 0, .int .i64 0, .slice (some ⟨w9.heap.size, 0, none⟩) 2 2] 25)) (· < ((w9.alloc (.cells #[.int .u8 b.kind, .string (bs b.text), .int .u8 b.lo, .int .u8 b.hi, .int .i64 b.mn, .int .i64 b.mx, .slice bp b.kids.length bc, .int .u8 a.kind, .string (bs a.text), .int .u8 a.lo, .int .u8 a.hi, .int .i64 a.mn, .int .i64 a.mx, .slice ap a.kids.length ac] 25)).alloc (.cells #[.int .u8 5, .string ⟨#[]⟩, .int .u8 0, .int .u8 0, .int .i64 0, .int .i64 0, .slice (some ⟨w9.heap.size, 0, none⟩) 2 2] 25)).heap.size) b.kids (.slice bp b.kids.length bc)) := (HKB9.out.under HB10.out).mono (fun b hl _ => hl)
  have HR10 := Lib.hid (HR9.out.below HB10.out)
  have HT10 := Lib.hid (HT9.out.below HB10.out)
  have HW10 := Lib.hid (HW9.out.trans (HB10.out.mono HW9.out.size))
  clear hcA9 hcB9 hla9 hlb9 HKA9 HKB9 HR9 HT9 HW9 HB10
  generalize ((w9.alloc (.cells #[.int .u8 b.kind, .string (bs b.text), .int .u8 b.lo, .int .u8 b.hi, .int .i64 b.mn, .int .i64 b.mx, .slice bp b.kids.length bc, .int .u8 a.kind, .string (bs a.text), .int .u8 a.lo, .int .u8 a.hi, .int .i64 a.mn, .int .i64 a.mx, .slice ap a.kids.length ac] 25)).alloc (.cells #[.int .u8 5, .string ⟨#[]⟩, .int .u8 0, .int .u8 0, .int .i64 0, .int .i64 0, .slice (some ⟨w9.heap.size, 0, none⟩) 2 2] 25)) = W10 at *
  generalize w9.heap.size = Bk at *
  have HW11 := Lib.hid (HW10.out.alloc HW10.out.size (.cells #[.string ⟨#[114, 117, 108, 101]⟩, .int .i64 0, .bool false, .int .u8 a.kind, .string (bs a.text), .int .u8 a.lo, .int .u8 a.hi, .int .i64 a.mn, .int .i64 a.mx, .slice ap a.kids.length ac] 27))
  have hb11 : Below W10.heap.size W10 (W10.alloc (.cells #[.string ⟨#[114, 117, 108, 101]⟩, .int .i64 0, .bool false, .int .u8 a.kind, .string (bs a.text), .int .u8 a.lo, .int .u8 a.hi, .int .i64 a.mn, .int .i64 a.mx, .slice ap a.kids.length ac] 27)) := (Below.refl _ _).alloc (Nat.le_refl _) _
  have HRS := Lib.hid (Rules_same (.slice A1 1 c1) (.slice (some ⟨W10.heap.size, 0, none⟩) 1 1) [({ name := ruleC, place := pa, more := false, tree := a }, sl1)] [({ name := ruleC, place := 0, more := false, tree := a }, .slice ap a.kids.length ac)] false (W10.alloc (.cells #[.string ⟨#[114, 117, 108, 101]⟩, .int .i64 0, .bool false, .int .u8 a.kind, .string (bs a.text), .int .u8 a.lo, .int .u8 a.hi, .int .i64 a.mn, .int .i64 a.mx, .slice ap a.kids.length ac] 27)) (by simp) rfl (fun i x y hx hy => by
    match i, hx, hy with
    | 0, hx, hy => injection hx with hx; injection hy with hy; rw [← hx, ← hy]; exact ⟨rfl, rfl, rfl, fun h => by cases h⟩) (HR10.out.below hb11) (RRow.lit [({ name := ruleC, place := 0, more := false, tree := a }, .slice ap a.kids.length ac)] (Blk.new _ _ _) rfl rfl 1 (fun p hp => by
      rw [List.mem_singleton] at hp
      subst hp
      exact ⟨(HKA10.out.under hb11).mono (fun b hl _ => hl), HRA.out⟩)))
  go_wp2_with (go_at_call 14; refine HRS.out.mono ?_)
  rintro e w12 ⟨rfl, hb12⟩
  have hb1012 : Below W10.heap.size W10 w12 := hb11.trans (hb12.mono hb11.size)
  have hBa12 := HBA10.out.below hb1012 HBA10.out.lt
  have hBr12 := HBR10.out.below hb1012 HBR10.out.lt
  have hBk12 := HBK10.out.below hb1012 HBK10.out.lt
  have HKA12 : Hid (KidsAt w12 (· < w12.heap.size) a.kids (.slice ap a.kids.length ac)) := (HKA10.out.under hb1012).mono (fun b hl _ => hl)
  have HKB12 : Hid (KidsAt w12 (· < w12.heap.size) b.kids (.slice bp b.kids.length bc)) := (HKB10.out.under hb1012).mono (fun b hl _ => hl)
  have HKR12 : Hid (KidsAt w12 (· < w12.heap.size) [b, a] (.slice (some ⟨Bk, 0, none⟩) 2 2)) := KidsAt.two b a (.slice bp b.kids.length bc) (.slice ap a.kids.length ac) Bk hBk12.lt HRB.out HRA.out hBk12 HKB12.out HKA12.out
  have HT12 := Lib.hid (HT10.out.below hb1012)
  have HW12 := Lib.hid (HW10.out.trans (hb1012.mono HW10.out.size))
  have hcA12 := hBa12.cell
  have hcR12 := hBr12.cell
  have hla12 := hBa12.lt
  have hlr12 := hBr12.lt
  have hb14 : Below w12.heap.size w12 ((w12.alloc (.cells #[.int .u8 a.kind, .string (bs a.text), .int .u8 a.lo, .int .u8 a.hi, .int .i64 a.mn, .int .i64 a.mx, .slice ap a.kids.length ac, .int .u8 5, .string ⟨#[]⟩, .int .u8 0, .int .u8 0, .int .i64 0, .int .i64 0, .slice (some ⟨Bk, 0, none⟩) 2 2] 25)).alloc (.cells #[.string ⟨#[114, 117, 108, 101]⟩, .int .i64 0, .bool false, .int .u8 6, .string ⟨#[]⟩, .int .u8 0, .int .u8 0, .int .i64 0, .int .i64 0, .slice (some ⟨w12.heap.size, 0, none⟩) 2 2] 27)) := ((Below.refl _ _).alloc (Nat.le_refl _) _).alloc (by simp) _
  have hBo : Blk ((w12.alloc (.cells #[.int .u8 a.kind, .string (bs a.text), .int .u8 a.lo, .int .u8 a.hi, .int .i64 a.mn, .int .i64 a.mx, .slice ap a.kids.length ac, .int .u8 5, .string ⟨#[]⟩, .int .u8 0, .int .u8 0, .int .i64 0, .int .i64 0, .slice (some ⟨Bk, 0, none⟩) 2 2] 25)).alloc (.cells #[.string ⟨#[114, 117, 108, 101]⟩, .int .i64 0, .bool false, .int .u8 6, .string ⟨#[]⟩, .int .u8 0, .int .u8 0, .int .i64 0, .int .i64 0, .slice (some ⟨w12.heap.size, 0, none⟩) 2 2] 27)) w12.heap.size 25 #[.int .u8 a.kind, .string (bs a.text), .int .u8 a.lo, .int .u8 a.hi, .int .i64 a.mn, .int .i64 a.mx, .slice ap a.kids.length ac, .int .u8 5, .string ⟨#[]⟩, .int .u8 0, .int .u8 0, .int .i64 0, .int .i64 0, .slice (some ⟨Bk, 0, none⟩) 2 2] := (Blk.new _ _ _).alloc _
  have hKo : KidsAt ((w12.alloc (.cells #[.int .u8 a.kind, .string (bs a.text), .int .u8 a.lo, .int .u8 a.hi, .int .i64 a.mn, .int .i64 a.mx, .slice ap a.kids.length ac, .int .u8 5, .string ⟨#[]⟩, .int .u8 0, .int .u8 0, .int .i64 0, .int .i64 0, .slice (some ⟨Bk, 0, none⟩) 2 2] 25)).alloc (.cells #[.string ⟨#[114, 117, 108, 101]⟩, .int .i64 0, .bool false, .int .u8 6, .string ⟨#[]⟩, .int .u8 0, .int .u8 0, .int .i64 0, .int .i64 0, .slice (some ⟨w12.heap.size, 0, none⟩) 2 2] 27)) (· < ((w12.alloc (.cells #[.int .u8 a.kind, .string (bs a.text), .int .u8 a.lo, .int .u8 a.hi, .int .i64 a.mn, .int .i64 a.mx, .slice ap a.kids.length ac, .int .u8 5, .string ⟨#[]⟩, .int .u8 0, .int .u8 0, .int .i64 0, .int .i64 0, .slice (some ⟨Bk, 0, none⟩) 2 2] 25)).alloc (.cells #[.string ⟨#[114, 117, 108, 101]⟩, .int .i64 0, .bool false, .int .u8 6, .string ⟨#[]⟩, .int .u8 0, .int .u8 0, .int .i64 0, .int .i64 0, .slice (some ⟨w12.heap.size, 0, none⟩) 2 2] 27)).heap.size) [a, .mk 5 [] 0 0 0 0 [b, a]] (.slice (some ⟨w12.heap.size, 0, none⟩) 2 2) := KidsAt.two a (.mk 5 [] 0 0 0 0 [b, a]) (.slice ap a.kids.length ac) (.slice (some ⟨Bk, 0, none⟩) 2 2) w12.heap.size hBo.lt HRA.out (Nat.zero_le _) hBo ((HKA12.out.under hb14).mono (fun b hl _ => hl)) ((HKR12.out.under hb14).mono (fun b hl _ => hl))
  have HRT := Lib.hid (Rules_same (.slice A2 1 c2) (.slice (some ⟨w12.heap.size + 1, 0, none⟩) 1 1) [({ name := ruleC, place := pb, more := false, tree := orT a b }, sl2)] [({ name := ruleC, place := 0, more := false, tree := orT a b }, .slice (some ⟨w12.heap.size, 0, none⟩) 2 2)] false ((w12.alloc (.cells #[.int .u8 a.kind, .string (bs a.text), .int .u8 a.lo, .int .u8 a.hi, .int .i64 a.mn, .int .i64 a.mx, .slice ap a.kids.length ac, .int .u8 5, .string ⟨#[]⟩, .int .u8 0, .int .u8 0, .int .i64 0, .int .i64 0, .slice (some ⟨Bk, 0, none⟩) 2 2] 25)).alloc (.cells #[.string ⟨#[114, 117, 108, 101]⟩, .int .i64 0, .bool false, .int .u8 6, .string ⟨#[]⟩, .int .u8 0, .int .u8 0, .int .i64 0, .int .i64 0, .slice (some ⟨w12.heap.size, 0, none⟩) 2 2] 27)) (by simp) rfl (fun i x y hx hy => by
    match i, hx, hy with
    | 0, hx, hy => injection hx with hx; injection hy with hy; rw [← hx, ← hy]; exact ⟨rfl, rfl, rfl, fun h => by cases h⟩) (HT12.out.below hb14) (RRow.lit [({ name := ruleC, place := 0, more := false, tree := orT a b }, .slice (some ⟨w12.heap.size, 0, none⟩) 2 2)] (Blk.new_at _ _ _ _ (by simp)) rfl rfl 1 (fun p hp => by
      rw [List.mem_singleton] at hp
      subst hp
      exact ⟨hKo, Nat.zero_le _⟩)))
  have HB14 := Lib.hid (HW12.out.trans (hb14.mono HW12.out.size))
  clear hb1012 hBa12 hBr12 hBk12 hb14 hBo hKo hb12 hb11 hcA10 hcR10 hla10 hlr10 HRS HBA10 HBR10 HBK10 HKA10 HKB10 HR10 HT10 HW10 HW11 HKA12 HKB12 HKR12 HT12
  go_wp2_with (go_at_call 14; refine HRT.out.mono ?_)
  rintro e w15 ⟨rfl, hb15⟩
  have HB15 := Lib.hid (HB14.out.trans (hb15.mono HB14.out.size))
  clear hb15 HRT hcA12 hcR12
  go_wp2_with (go_at_call 10; refine (HWAKE.out _ HB15.out).mono ?_)
  rintro e w16 ⟨rfl, hb16⟩
  have HEND := Lib.hid (HB15.out.trans (hb16.mono HB15.out.size))
  clear hb16
  go_wp2
  go_ret
  exact ⟨rfl, HEND.out⟩

set_option maxRecDepth 1000000 in
set_option maxHeartbeats 4000000 in
theorem AbnfBrackets_any (UA : Option Addr) (uc : Nat) (u : List Nat) (VA : Option Addr) (vc : Nat) (v : List Nat) (mny : Nat) (hmny : mny ≤ 255) (w : World) (hu : NumsAt w UA u) (hv : NumsAt w VA v) (hlv : LeavesAt w) (hpw : PowAt w) :
    Calls Tryz.prog 5 #[.slice UA u.length uc, .slice VA v.length vc, .int .u8 (mny : Nat)] w fun e w' => e = .returned (.bool true) ∧ Below w.heap.size w w' := by
  by_cases h1 : u.length ≤ 200
  · by_cases h2 : v.length ≤ 200
    · exact AbnfBrackets_ok UA uc u VA vc v mny hmny w hu hv h1 h2 hlv hpw
    · have HW := Lib.hid (awake_any w hlv hpw)
      generalize u.length = n at *
      generalize v.length = m at *
      clear hlv hpw hu hv
      go_enter Tryz.func5, Tryz.ntmps5
      go_wp2_with (go_at_call 10; refine HW.out.mono ?_)
      rintro e w1 ⟨rfl, hb⟩
      go_wp2
      go_ret
      exact ⟨rfl, hb⟩
  · have HW := Lib.hid (awake_any w hlv hpw)
    generalize u.length = n at *
    generalize v.length = m at *
    have hd : decide ((200 : Int) < (n : Int)) = true := by rw [decide_eq_true_iff]; omega
    have hd2 : (200 : Int) < (n : Int) := by omega
    clear hlv hpw hu hv
    go_enter Tryz.func5, Tryz.ntmps5
    go_wp2_with (go_at_call 10; refine HW.out.mono ?_)
    rintro e w1 ⟨rfl, hb⟩
    go_wp2
    go_ret
    exact ⟨rfl, hb⟩
end Go.Proofs.YtgbipbjpeecooaaGreatDoor

/-
  AbnfBrackets answers true for every input, and leaves its arguments as they were: the row, and the tied card. Conditions: the listed tables as the program's text lays them (the card ties them).
-/
namespace Go.Proofs.YtgbipbjpeecooaaGreatDoor.abnfBrackets
open Go.ChangeShapes Go.WideShapes Go.ChangeAt Go.RowKit

theorem own : ownKnob Tryz.prog.godebug = none := by kernel_rfl
theorem laidOut : laidOutB Tryz.prog = true := by kernel_rfl
theorem gLeaves : Tryz.prog.globalNamed "franking/abnf.leaves" = some 4 := by kernel_rfl
theorem gPow : Tryz.prog.globalNamed "internal/strconv.uint64pow10" = some 5 := by kernel_rfl
theorem leavesAt_of {W : World} (h : Lib.TabIs Tryz.prog W "franking/abnf.leaves" .u8 leafTab) : LeavesAt W := by
  intro i k hk
  obtain ⟨hi, e⟩ := List.getElem?_eq_some_iff.1 hk
  have := h.cell gLeaves i hi
  rw [List.getD_eq_getElem?_getD, hk] at this
  exact this
theorem tabs_of_laid {W : World} (h : laidMetH Tryz.prog Rows.abnfBracketsRow.laid W) : Lib.TabIs Tryz.prog W "franking/abnf.leaves" .u8 leafTab ∧ Lib.TabIs Tryz.prog W "internal/strconv.uint64pow10" .u64 Lib.pow10Tab := by
  rw [MakeChecks.laidMetH_plain _ _ _ (by kernel_rfl)] at h
  have h' : laidMet Tryz.prog [("math/bits.deBruijn32tab", Rows.laid_math_bits_deBruijn32tab), ("math/bits.deBruijn64tab", Rows.laid_math_bits_deBruijn64tab), ("internal/strconv.uint64pow10", Rows.laid_internal_strconv_uint64pow10), ("franking/abnf.leaves", Rows.laid_franking_abnf_leaves)] W := h
  have h3 := h'.tail.tail
  have h4 := h3.tail
  exact ⟨Lib.tabIs_of_head (zs := leafTab) gLeaves (t := 181) (by kernel_rfl) Tryz.underlying181 Tryz.underlying5 (by kernel_rfl) (by kernel_rfl) h4, Lib.tabIs_of_head (zs := Lib.pow10Tab) gPow (t := 200) (by kernel_rfl) Tryz.underlying200 Tryz.underlying144 (by kernel_rfl) (by kernel_rfl) h3⟩
def IsRow (k : IntKind) (w : World) (a : Option Addr) (len cap : Nat) (zs : List Int) : Prop :=
  (a = none ∧ len = 0 ∧ cap = 0 ∧ zs = []) ∨
  ∃ x, a = some x ∧ len ≤ cap ∧ cap ≤ maxLen ∧ zs.length = cap ∧ (∀ i, i < zs.length → w.cell? (x.add i) = some (.int k (zs.getD i 0))) ∧ ∀ n ∈ zs, (Lit.int k n).wf = true
theorem cell_lt {w : World} {b off : Nat} {v : Value} (h : w.cell? ⟨b, off, none⟩ = some v) : b < w.heap.size := by
  rcases Nat.lt_or_ge b w.heap.size with hlt | hge
  · exact hlt
  · simp [World.cell?, Array.getElem?_eq_none hge] at h
theorem nums_of {w : World} {a : Option Addr} {len cap : Nat} {zs : List Int} (h : IsRow .u16 w a len cap zs) : ∃ u : List Nat, u.length = len ∧ NumsAt w a u := by
  rcases h with ⟨rfl, rfl, rfl, rfl⟩ | ⟨x, rfl, hl, hm, hz, hc, hw⟩
  · exact ⟨[], rfl, ⟨fun i n hi => by simp at hi, fun n hn => by cases hn⟩⟩
  · have hlen : (zs.take len).length = len := by rw [List.length_take]; omega
    refine ⟨(zs.take len).map Int.toNat, by rw [List.length_map, hlen], ⟨fun i n hi => ?_, fun n hn => ?_⟩⟩
    · rw [List.getElem?_map, Option.map_eq_some_iff] at hi
      obtain ⟨z, hz2, rfl⟩ := hi
      obtain ⟨hi2, ez⟩ := List.getElem?_eq_some_iff.1 hz2
      rw [hlen] at hi2
      have hzm : z ∈ zs := List.mem_of_mem_take (List.mem_of_getElem? hz2)
      have hbd := bounds_u16 (hw z hzm)
      obtain ⟨b, off, rfl, hc2⟩ := ints_at hc (by omega)
      have hcell := hc2 i (by omega)
      have hd : zs.getD i 0 = z := by
        rw [List.getD_eq_getElem?_getD]
        rw [List.getElem?_take, if_pos hi2] at hz2
        rw [hz2]
        rfl
      rw [hd] at hcell
      refine ⟨b, off, rfl, cell_lt hcell, ?_⟩
      rw [hcell, Int.toNat_of_nonneg hbd.1]
    · obtain ⟨z, hz2, rfl⟩ := List.mem_map.1 hn
      have hbd := bounds_u16 (hw z (List.mem_of_mem_take hz2))
      omega

set_option maxRecDepth 100000 in
theorem lifted (os : Os) (started : os.Started) (H : Type) (enc : TypeId × Value → H) :
    ReturnsInHanded {} Tryz.checked os 5 .any (fun w args => (Rows.abnfBracketsSpec.pre enc Tryz.prog Tryz.f5 Rows.abnfBracketsRow.domain false w args ∧ laidMetH Tryz.prog Rows.abnfBracketsRow.laid w) ∧ sizedMet enc Tryz.prog Tryz.f5 (OpenSpec.ofChange Rows.abnfBracketsSpec) false w args)
      (Rows.abnfBracketsSpec.post enc Tryz.prog Tryz.f5 false true false false) := by
  refine returnsInHanded_of_change_and (C := Tryz.checked) (X := fun w _ => laidMetH Tryz.prog Rows.abnfBracketsRow.laid w) (fun _ _ _ hh h => h.of_heap hh) own started (by kernel_rfl) Tryz.func5
    (ChangeSpec.witness_shaped (enc := enc) (C := Tryz.checked) (os := os) (X := fun w _ => laidMetH Tryz.prog Rows.abnfBracketsRow.laid w) false (World.laidAll Tryz.prog os Rows.abnfBracketsRow.laid) #[.slice none 0 0, .slice none 0 0, .int .u8 0] 8 (World.laidAll_os _ _ _)
      (World.shaped_of_ZipB (by kernel_rfl) (by kernel_rfl)) (by kernel_rfl) (by kernel_rfl) (by kernel_rfl)
      (by rw [MakeChecks.laidMetH_plain _ _ _ (by kernel_rfl)]; exact laidMet_laidAll _ (by kernel_rfl) (by kernel_rfl))) ?_
  intro W base args ds gs before hval0 hW _ _ hL _
  have hval : ∀ (j : Nat) t v, Tryz.f5.params[j]? = some t → args[j]? = some v → Value.okWide Tryz.prog W .any base t v := hval0
  have hW' := hW
  obtain ⟨p, q, hA0, hV, rfl, _, _⟩ := hW
  have hA : DataW.TrodAll enc Tryz.prog W 0 (fun _ => true) true Tryz.f5.params.toList args.toList ds p := hA0
  rw [Tryz.params5] at hA hval
  obtain ⟨v0, vs0, d0, ds0, p0, q0, hargs, rfl, rfl, h0, r0⟩ := trodAll_cons hA
  obtain ⟨v1, vs1, d1, ds1, p1, q1, rfl, rfl, rfl, h1, r1⟩ := trodAll_cons r0
  obtain ⟨v2, vs2, d2, ds2, p2, q2, rfl, rfl, rfl, h2, r2⟩ := trodAll_cons r1
  obtain ⟨rfl, rfl, rfl⟩ := trodAll_nil r2
  obtain rfl : args = #[v0, v1, v2] := by cases args; simp_all
  obtain ⟨rfl, rfl⟩ := trodVars_none hV
  obtain ⟨a0, len0, cap0, rfl⟩ := okWide_slice Tryz.underlying43 (hval 0 43 v0 rfl rfl)
  have k0 := h0
  have lt0 : ∀ x ∈ p0, x.block < W.heap.size := by obtain ⟨m, hm⟩ := k0; exact DataW.trod_lt m _ _ _ hm
  obtain ⟨z0, w0⟩ : ∃ zs, IsRow .u16 W a0 len0 cap0 zs := by
    obtain ⟨fuel, hf⟩ := h0
    rcases open_ints Tryz.underlying43 Tryz.underlying168 (by kernel_rfl) hf with ⟨hcs, _⟩ | ⟨x, l, c, zs, hcs, _, hl, hm, hz, _, hcell, hwz⟩
    · simp [Value.cells] at hcs
      obtain ⟨rfl, rfl, rfl⟩ := hcs
      exact ⟨[], .inl ⟨rfl, rfl, rfl, rfl⟩⟩
    · simp [Value.cells] at hcs
      obtain ⟨rfl, rfl, rfl⟩ := hcs
      exact ⟨zs, .inr ⟨_, rfl, hl, hm, by simpa using hz, hcell, hwz⟩⟩
  obtain ⟨a1, len1, cap1, rfl⟩ := okWide_slice Tryz.underlying43 (hval 1 43 v1 rfl rfl)
  have k1 := h1
  have lt1 : ∀ x ∈ p1, x.block < W.heap.size := by obtain ⟨m, hm⟩ := k1; exact DataW.trod_lt m _ _ _ hm
  obtain ⟨z1, w1⟩ : ∃ zs, IsRow .u16 W a1 len1 cap1 zs := by
    obtain ⟨fuel, hf⟩ := h1
    rcases open_ints Tryz.underlying43 Tryz.underlying168 (by kernel_rfl) hf with ⟨hcs, _⟩ | ⟨x, l, c, zs, hcs, _, hl, hm, hz, _, hcell, hwz⟩
    · simp [Value.cells] at hcs
      obtain ⟨rfl, rfl, rfl⟩ := hcs
      exact ⟨[], .inl ⟨rfl, rfl, rfl, rfl⟩⟩
    · simp [Value.cells] at hcs
      obtain ⟨rfl, rfl, rfl⟩ := hcs
      exact ⟨zs, .inr ⟨_, rfl, hl, hm, by simpa using hz, hcell, hwz⟩⟩
  obtain ⟨mny, rfl, rfl, rfl, w2⟩ := open_int Tryz.underlying5 (hval 2 5 v2 rfl rfl) h2
  have hbd := bounds_u8 w2
  obtain ⟨mn, rfl⟩ : ∃ mn : Nat, mny = mn := ⟨mny.toNat, by omega⟩
  obtain ⟨u, rfl, hu⟩ := nums_of w0
  obtain ⟨v, rfl, hv⟩ := nums_of w1
  obtain ⟨ht1, ht2⟩ := tabs_of_laid hL
  clear hA0 hval0
  refine (AbnfBrackets_any a0 cap0 u a1 cap1 v mn (by omega) W hu hv (leavesAt_of ht1) ht2).mono fun e W' ⟨he, bel⟩ => ?_
  subst he
  exact ⟨_, rfl, _, _, _, [], _, [], hW', trodAll_mk1 (shut_bool Tryz.underlying4 _), (trodAll_cons_mk (Below.trod laidOut (by kernel_rfl) (of_decide_eq_true (by kernel_rfl)) k0 bel lt0) (trodAll_cons_mk (Below.trod laidOut (by kernel_rfl) (of_decide_eq_true (by kernel_rfl)) k1 bel lt1) (trodAll_cons_mk (shut_int Tryz.underlying5 w2) trodAll_mk0))), rfl, bel.frame _, fun h => by cases h⟩

theorem holds : Rows.AbnfBracketsSaid :=
  OpenClaim.holds_of_wide 5 Tryz.f5 rfl rfl rfl rfl rfl rfl rfl ⟨rfl, rfl, rfl, rfl, rfl⟩ rfl rfl rfl rfl rfl (by kernel_rfl) Tryz.func5 (by kernel_rfl)
    (of_decide_eq_true (by kernel_rfl)) (by unfold Func.isWrapper; first | (rw [if_pos (by decide +kernel)]; kernel_rfl) | (rw [if_neg (by decide +kernel)]; exact ⟨rfl, rfl⟩))
    (fun os started H enc _ => lifted os started H enc)
theorem card_holds : Rows.AbnfBracketsCardSaid :=
  Claim7.holds_tied_plain_at .later [] [.data, .data, .data, .data] true Rows.abnfBracketsCard.stood.harness false holds (fun _ h => by cases h) (by kernel_rfl) (fun _ h => by cases h) abnfBrackets_row_tie rfl ⟨rfl, rfl⟩ (by kernel_rfl) rfl
    (fun f fn hf hfn => by
      obtain rfl : f = 5 := Option.some.inj ((show Tryz.prog.funcNamed "franking/frankinglaw02.AbnfBrackets" = some 5 by kernel_rfl).symm.trans hf) |>.symm
      obtain rfl : fn = Tryz.f5 := (Option.some.inj (Tryz.func5.symm.trans hfn)).symm
      exact ⟨by kernel_rfl, fun j t ht => by
        rw [Tryz.params5] at ht
        have hm : t ∈ [43, 43, 5] := by simpa using Array.mem_of_getElem? ht
        have hall : ([43, 43, 5].all fun u => !Tryz.prog.wantsStandIn u) = true := by kernel_rfl
        exact (show Tryz.prog.wantsStandIn t = false by simpa using List.all_eq_true.1 hall t hm)⟩)
    (by kernel_rfl)
end Go.Proofs.YtgbipbjpeecooaaGreatDoor.abnfBrackets
