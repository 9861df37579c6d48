/-
  CommandLong answers true, and leaves its arguments as they were, for every input: the row, and the tied card. Conditions: the listed variables as the library's text lays them (the card ties them).
-/
import Derived.Test.YtnkepdeegpampaaGreatDoorM07
import Derived.Test.YtnkepdeegpampaaGreatDoorM05
import Derived.Test.YtnkepdeegpampaaGreatDoorRows
import Derived.Test.YtnkepdeegpampaaGreatDoorTie
import Derived.Test.YtnkepdeegpampaaGreatDoorCards
import Derived.WalkKit
import Derived.ProofKit
import Derived.OpenShut
import Derived.LaidMore
import Derived.Lay
import Derived.SevenTiedAt
import Derived.Stop.Joined
import Derived.Stop.LaidErr
import Derived.Lib.LaidTab
import Derived.Deep.DeepHandedRow
import Derived.ShutString
import Derived.ChangeOld
import Derived.Below
/-
  The contract of frankinglaw16.CommandLong. Conditions: the variables that are read.
-/
namespace Go.Proofs.YtnkepdeegpampaaGreatDoor
open Go.RowKit Go.Shelf

theorem rep_one (c : UInt8) (n : Nat) : Lib.repeatL [c] n = longT n c := by
  unfold longT
  induction n with
  | zero => rfl
  | succ n ih =>
    rw [List.replicate_succ, ← ih]
    rfl
theorem sh_of (c : Nat) (hc : c < 256) : shB (UInt8.ofNat (32 + c % 95)) = true ∧ (UInt8.ofNat (32 + c % 95)).toNat = 32 + c % 95 := by
  have h : (UInt8.ofNat (32 + c % 95)).toNat = 32 + c % 95 := by
    rw [UInt8.toNat_ofNat']
    omega
  refine ⟨?_, h⟩
  rw [sh_z, h]
  simp
  omega
set_option maxRecDepth 100000 in
set_option maxHeartbeats 1000000 in
theorem long16_any (m c : Nat) (hm : m < 256) (hc : c < 256) (w : World) (he : Env w) : Calls Tryz.prog 7 #[.int .u8 (m : Int), .int .u8 (c : Int)] w (SameOut w true) := by
  have HQ : Hid (∀ w', Below w.heap.size w w' → SameOut w true (.returned (.bool true)) w') := fun w' h => ⟨rfl, h⟩
  generalize SameOut w true = Q at *
  have HAW := Lib.hid (fun W (hW : Below w.heap.size w W) => awake16_any W (he.later hW))
  have HE := Lib.hid (fun W (hW : Below w.heap.size w W) => he.later hW)
  obtain ⟨x, hx⟩ : ∃ x, x = UInt8.ofNat (32 + c % 95) := ⟨_, rfl⟩
  obtain ⟨hsh, hxn⟩ := sh_of c hc
  rw [← hx] at hsh hxn
  obtain ⟨n, hn⟩ : ∃ n, n = 500 + m % 30 := ⟨_, rfl⟩
  have hn1 : 500 ≤ n ∧ n ≤ 529 := by omega
  obtain ⟨k, hk⟩ : ∃ k, k = n - 5 := ⟨_, rfl⟩
  have HRE := Lib.hid (fun W => Tryz.strings_Repeat (bs [x]) k W (by omega) (by rw [bs_size]; simp; omega))
  have er : Lib.repeatL (bs [x]).data.toList k = longT k x := rep_one x k
  rw [er] at HRE
  have eb : (⟨(longT k x).toArray⟩ : ByteArray) = bs (longT k x) := rfl
  rw [eb] at HRE
  have hll : (longT k x).length = k := by simp [longT]
  have hm0 : (0 : Int) ≤ (m : Int) := by omega
  have hc0 : (0 : Int) ≤ (c : Int) := by omega
  have hm2 : (m : Int) < 256 := by omega
  have hc2 : (c : Int) < 256 := by omega
  have hxz : (32 : Int) + (c : Int) % 95 = (x.toNat : Int) := by rw [hxn]; omega
  have hnz : (500 : Int) + (m : Int) % 30 = (n : Int) := by omega
  have hkz : (n : Int) - 5 = (k : Int) := by omega
  have hcv := conv_any (w.alloc (.cells #[.int .u8 (x.toNat : Int)] 5)) (some ⟨w.heap.size, 0, none⟩) [x] 1 (by
    refine ⟨by simp [maxLen], fun _ => ⟨w.heap.size, 0, rfl, by rw [World.size_alloc]; omega, fun j hj => ?_⟩⟩
    rw [Nat.zero_add, (Blk.new w 5 _).cell j]
    match j, hj with
    | 0, _ => rfl)
  have e1 : ([x] : List UInt8).length = 1 := rfl
  rw [e1] at hcv
  obtain ⟨S, hS⟩ : ∃ S, S = [86, 82, 70, 89, 32] ++ longT k x := ⟨_, rfl⟩
  have hSl : S.length = n := by rw [hS, List.length_append, hll]; simp; omega
  have hadd := add_bs [86, 82, 70, 89, 32] (longT k x) (by rw [hll]; simp; omega)
  rw [← hS] at hadd
  have e2 : (⟨#[86, 82, 70, 89, 32]⟩ : ByteArray) = bs [86, 82, 70, 89, 32] := rfl
  rw [← e2] at hadd
  have hf1 : ∀ W, (Instr.slice 9 (.string (bs S)) (some (.int .i64 1)) none none).run Tryz.prog W = .ok (.string (bs (S.drop 1))) W := fun W => str_from S 1 (by omega) W
  have hf5 : ∀ W, (Instr.slice 9 (.string (bs S)) (some (.int .i64 5)) none none).run Tryz.prog W = .ok (.string (bs (S.drop 5))) W := fun W => str_from S 5 (by omega) W
  have hd5 : S.drop 5 = longT k x := by rw [hS]; rfl
  rw [hd5] at hf5
  obtain ⟨R, hR⟩ : ∃ R, R = [120, 82, 70, 89, 32] ++ longT k x := ⟨_, rfl⟩
  have hd1 : [120] ++ S.drop 1 = R := by rw [hS, hR]; rfl
  have hadd2 := add_bs [120] (S.drop 1) (by rw [List.length_drop, hSl]; simp; omega)
  rw [hd1] at hadd2
  have e3 : (⟨#[120]⟩ : ByteArray) = bs [120] := rfl
  rw [← e3] at hadd2
  have hRl : R.length = n := by rw [hR, List.length_append, hll]; simp; omega
  have hSs : (bs S).size = n := hSl
  have HLA := Lib.hid (fun W => RowAt.len (noTexts W none))
  clear hx hxn e1 e2 e3 er eb hd1 hd5
  by_cases hlt : 510 < n
  · have hlz : (510 : Int) < (n : Int) := by omega
    have HR1 := Lib.hid (fun W (hW : Below w.heap.size w W) => refused_yes S (by omega) 3 (long_much (by omega)) W (HE.out W hW))
    have HR2 := Lib.hid (fun W (hW : Below w.heap.size w W) => refused_yes R (by omega) 3 (long_much (by omega)) W (HE.out W hW))
    clear hlt hm hc hsh hn hk hll hSl hRl hS hR hn1 he HLA
    generalize bs S = S1 at *
    generalize bs R = S2 at *
    generalize bs (S.drop 1) = S3 at *
    generalize bs (longT k x) = S4 at *
    generalize bs [x] = S5 at *
    go_enter Tryz.func7, Tryz.ntmps7
    go_wp2_with (first | (go_at_call 21; refine (HRE.out _).mono ?_; rintro e w2 ⟨rfl, hb⟩; have HB2 := Lib.hid (low_trans ((Below.refl _ w).alloc (Nat.le_refl _) _) hb); clear hb) | (go_at_call 17; (with_reducible refine (HR1.out _ HB2.out).mono ?_); rintro e w3 ⟨rfl, hb⟩; have HB3 := Lib.hid (low_trans HB2.out hb); clear hb HR1) | (go_at_call 17; (with_reducible refine (HR2.out _ HB3.out).mono ?_); rintro e w4 ⟨rfl, hb⟩; have HB4 := Lib.hid (low_trans HB3.out hb); clear hb HR2) | (go_at_call 10; refine (HAW.out _ HB4.out).mono ?_; rintro e w5 ⟨rfl, hb⟩; have HB5 := Lib.hid (low_trans HB4.out hb); clear hb))
    exact HQ.out _ HB5.out
  · have hlz : ¬ (510 : Int) < (n : Int) := by omega
    have HR1 : Hid (∀ W, Below w.heap.size w W → Calls Tryz.prog 20 #[.string (bs S), .agg #[.int .u8 7, .string (bs (longT k x)), .bool false, .slice none 0 0, .string ⟨#[]⟩, .string ⟨#[]⟩, .bool false, .slice none 0 0]] W (SameOut W true)) := fun W hW => reads16_yes S (by omega) { verb := 7, arg := longT k x } (by rw [hS]; exact long_yes (by omega) hsh) none none 0 0 W (noTexts W none) (noPms W none) (HE.out W hW)
    have HR2 := Lib.hid (fun W (hW : Below w.heap.size w W) => refused_yes R (by omega) 160 (by rw [hR]; exact long_verb _ (by rw [hll]; omega)) W (HE.out W hW))
    clear hlt hm hc hsh hn hk hll hSl hRl hS hR hn1 he HLA
    generalize bs S = S1 at *
    generalize bs R = S2 at *
    generalize bs (S.drop 1) = S3 at *
    generalize bs (longT k x) = S4 at *
    generalize bs [x] = S5 at *
    go_enter Tryz.func7, Tryz.ntmps7
    go_wp2_with (first | (go_at_call 21; refine (HRE.out _).mono ?_; rintro e w2 ⟨rfl, hb⟩; have HB2 := Lib.hid (low_trans ((Below.refl _ w).alloc (Nat.le_refl _) _) hb); clear hb) | (go_at_call 20; (with_reducible refine (HR1.out _ HB2.out).mono ?_); rintro e w3 ⟨rfl, hb⟩; have HB3 := Lib.hid (low_trans HB2.out hb); clear hb HR1) | (go_at_call 17; (with_reducible refine (HR2.out _ HB3.out).mono ?_); rintro e w4 ⟨rfl, hb⟩; have HB4 := Lib.hid (low_trans HB3.out hb); clear hb HR2) | (go_at_call 10; refine (HAW.out _ HB4.out).mono ?_; rintro e w5 ⟨rfl, hb⟩; have HB5 := Lib.hid (low_trans HB4.out hb); clear hb))
    exact HQ.out _ HB5.out
end Go.Proofs.YtnkepdeegpampaaGreatDoor

/-
  A path that came in lies in memory, and its texts are no longer than the reading's bulk. No conditions.
-/
namespace Go.Proofs.YtnkepdeegpampaaGreatDoor
open Go.ChangeShapes Go.RowKit
variable {H : Type} {enc : TypeId × Value → H} {W : World} {fuel : Nat}

theorem zBool : Tryz.prog.cellsOf 4 = 1 := by kernel_rfl
theorem zString : Tryz.prog.cellsOf 9 = 1 := by kernel_rfl
theorem zStrings : Tryz.prog.cellsOf 22 = 1 := by kernel_rfl
theorem zBox : Tryz.prog.cellsOf 24 = 3 := by kernel_rfl
theorem zPath : Tryz.prog.cellsOf 26 = 5 := by kernel_rfl
theorem of3 {α : Type} (l : List α) (h : l.length = 3) : ∃ a0 a1 a2, l = [a0, a1, a2] := by
  match l, h with
  | [a0, a1, a2], _ => exact ⟨a0, a1, a2, rfl⟩
theorem of5 {α : Type} (l : List α) (h : l.length = 5) : ∃ a0 a1 a2 a3 a4, l = [a0, a1, a2, a3, a4] := by
  match l, h with
  | [a0, a1, a2, a3, a4], _ => exact ⟨a0, a1, a2, a3, a4, rfl⟩
theorem bulk_of : ∀ (ds : List (DataW H)) (i : Nat) (d : DataW H), ds[i]? = some d → Rows.uptoBulk d ≤ Rows.uptoBulkAll ds
  | [], i, d, h => by simp at h
  | e :: r, 0, d, h => by
    have : e = d := by simpa using h
    subst this
    rw [Rows.uptoBulkAll]
    omega
  | e :: r, i + 1, d, h => by
    have := bulk_of r i d (by simpa using h)
    rw [Rows.uptoBulkAll]
    omega
theorem open_textsB {cs : List Value} {x : DataW H × List MemPlace} (h : DataW.trod enc Tryz.prog W 0 (fun _ => true) true fuel 22 cs = some x) : ∃ a c l, cs = [.slice a (List.length l) c] ∧ TextsAt W a l ∧ l.length ≤ c ∧ ∀ s ∈ l, s.length ≤ Rows.uptoBulk x.1 := by
  rcases DataW.trod_slice Tryz.underlying22 h with ⟨hn, rfl⟩ | ⟨a, len, cap, elems, rest, m, rfl, hcs, rfl, hb, hl, hm, hlen, hel, _, _⟩
  · exact ⟨none, 0, [], hn, ⟨by decide, fun h => absurd h (by decide)⟩, Nat.le_refl _, fun s hs => (by cases hs)⟩
  · have each : ∀ i : Nat, ∃ s : ByteArray, i < len → W.cell? (a.add i) = some (.string s) ∧ ∃ y, elems[i]? = some y ∧ y.1 = .lit (.string s.data.toList) := fun i => by
      by_cases hi : i < len
      · have he := hel i hi
        rw [List.getElem?_eq_getElem (by omega), zString, Option.bind_eq_some_iff] at he
        obtain ⟨cs', hc', ht'⟩ := he
        obtain ⟨s, rfl, e2, _⟩ := DataW.trod_string Tryz.underlying9 ht'
        obtain ⟨_, _, hcell⟩ := World.cells?_some hc'
        have h0 := hcell 0 (by omega)
        refine ⟨s, fun _ => ⟨?_, _, List.getElem?_eq_getElem (by omega), by rw [e2]⟩⟩
        rw [Nat.mul_one] at h0
        have e : (a.add i).add 0 = a.add i := by unfold Addr.add; split <;> simp_all
        rw [e] at h0
        rw [h0]
        rfl
      · exact ⟨.empty, fun h => absurd h hi⟩
    obtain ⟨f, hf⟩ := Classical.axiomOfChoice each
    have hkl : ((List.range len).map fun i => (f i).data.toList).length = len := by simp
    refine ⟨some a, cap, (List.range len).map fun i => (f i).data.toList, by rw [hkl]; exact hcs, row_of a _ (by rw [List.length_map, hkl]; omega) fun i hi => ?_, by rw [hkl]; exact hl, fun s hs => ?_⟩
    · rw [List.length_map, hkl] at hi
      rw [(hf i hi).1, List.getElem_map, List.getElem_map, List.getElem_range]
      rfl
    · obtain ⟨i, hi, rfl⟩ := List.mem_map.1 hs
      have hi := List.mem_range.1 hi
      obtain ⟨_, y, h1, h2⟩ := hf i hi
      have := bulk_of (elems.map (·.1)) i y.1 (by rw [List.getElem?_map, h1]; rfl)
      rw [h2, Rows.uptoBulk] at this
      show _ ≤ Rows.uptoBulkAll (elems.map (·.1)) + Rows.uptoBulkAll (rest.map (·.1)) + 1
      omega
set_option maxRecDepth 100000 in
theorem open_box {cs : List Value} {x : DataW H × List MemPlace} (h : DataW.trod enc Tryz.prog W 0 (fun _ => true) true fuel 24 cs = some x) : ∃ (loc d : List UInt8) (lit : Bool), cs = [.string (bs loc), .string (bs d), .bool lit] ∧ loc.length ≤ Rows.uptoBulk x.1 ∧ d.length ≤ Rows.uptoBulk x.1 := by
  obtain ⟨xs, n, rfl, rfl, hl, hlen, hf⟩ := DataW.trod_struct Tryz.underlying24 h
  rw [zBox] at hl
  have hlen : xs.length = 3 := hlen
  obtain ⟨c0, c1, c2, rfl⟩ := of3 cs hl
  obtain ⟨y0, y1, y2, rfl⟩ := of3 xs hlen
  have h0 : DataW.trod enc Tryz.prog W 0 (fun _ => true) true n 9 (([c0, c1, c2].drop 0).take (Tryz.prog.cellsOf 9)) = some y0 := hf 0 _ rfl
  have h1 : DataW.trod enc Tryz.prog W 0 (fun _ => true) true n 9 (([c0, c1, c2].drop 1).take (Tryz.prog.cellsOf 9)) = some y1 := hf 1 _ rfl
  have h2 : DataW.trod enc Tryz.prog W 0 (fun _ => true) true n 4 (([c0, c1, c2].drop 2).take (Tryz.prog.cellsOf 4)) = some y2 := hf 2 _ rfl
  rw [zString] at h0 h1
  rw [zBool] at h2
  obtain ⟨s0, e0, rfl, _⟩ := DataW.trod_string Tryz.underlying9 h0
  obtain ⟨s1, e1, rfl, _⟩ := DataW.trod_string Tryz.underlying9 h1
  obtain ⟨b, e2, rfl⟩ := DataW.trod_bool Tryz.underlying4 h2
  have g0 : c0 = .string s0 := by injection e0
  have g1 : c1 = .string s1 := by injection e1
  have g2 : c2 = .bool b := by injection e2
  subst g0 g1 g2
  refine ⟨s0.data.toList, s1.data.toList, b, rfl, ?_, ?_⟩
  · show _ ≤ ((s0.data.toList.length + 1) + ((s1.data.toList.length + 1) + (Rows.uptoBulk _ + 0))) + 1
    omega
  · show _ ≤ ((s0.data.toList.length + 1) + ((s1.data.toList.length + 1) + (Rows.uptoBulk _ + 0))) + 1
    omega
set_option maxRecDepth 100000 in
theorem open_pathB {cs : List Value} {x : DataW H × List MemPlace} (h : DataW.trod enc Tryz.prog W 0 (fun _ => true) true fuel 26 cs = some x) : ∃ (P : Pa) (a : Option Addr) (c : Nat), cs = (paCells P (.slice a P.route.length c)).toList ∧ TextsAt W a P.route ∧ PaFits P (Rows.uptoBulk x.1) ∧ P.route.length ≤ c := by
  obtain ⟨xs, n, rfl, rfl, hl, hlen, hf⟩ := DataW.trod_struct Tryz.underlying26 h
  rw [zPath] at hl
  have hlen : xs.length = 3 := hlen
  obtain ⟨c0, c1, c2, c3, c4, rfl⟩ := of5 cs hl
  obtain ⟨y0, y1, y2, rfl⟩ := of3 xs hlen
  have h0 : DataW.trod enc Tryz.prog W 0 (fun _ => true) true n 4 (([c0, c1, c2, c3, c4].drop 0).take (Tryz.prog.cellsOf 4)) = some y0 := hf 0 _ rfl
  have h1 : DataW.trod enc Tryz.prog W 0 (fun _ => true) true n 22 (([c0, c1, c2, c3, c4].drop 1).take (Tryz.prog.cellsOf 22)) = some y1 := hf 1 _ rfl
  have h2 : DataW.trod enc Tryz.prog W 0 (fun _ => true) true n 24 (([c0, c1, c2, c3, c4].drop 2).take (Tryz.prog.cellsOf 24)) = some y2 := hf 2 _ rfl
  rw [zBool] at h0
  rw [zStrings] at h1
  rw [zBox] at h2
  obtain ⟨b, e0, rfl⟩ := DataW.trod_bool Tryz.underlying4 h0
  obtain ⟨a, c, l, e1, ht, hc, hb⟩ := open_textsB h1
  obtain ⟨loc, d, lit, e2, hb1, hb2⟩ := open_box h2
  have g0 : c0 = .bool b := by injection e0
  have e1' : [c1] = [Value.slice a l.length c] := e1
  have g1 : c1 = .slice a l.length c := by injection e1'
  have e2' : [c2, c3, c4] = [Value.string (bs loc), .string (bs d), .bool lit] := e2
  simp only [List.cons.injEq, and_true] at e2'
  obtain ⟨g2, g3, g4⟩ := e2'
  subst g0 g1 g2 g3 g4
  have hbulk : Rows.uptoBulk y1.1 + Rows.uptoBulk y2.1 ≤ Rows.uptoBulkAll [(DataW.lit (.bool b), ([] : List MemPlace)).1, y1.1, y2.1] := by
    simp only [Rows.uptoBulkAll]
    omega
  refine ⟨⟨b, l, loc, d, lit⟩, a, c, rfl, ht, ⟨?_, ?_, fun s hs => ?_⟩, hc⟩
  · show _ ≤ Rows.uptoBulkAll [(DataW.lit (.bool b), ([] : List MemPlace)).1, y1.1, y2.1] + 1
    show loc.length ≤ _
    omega
  · show _ ≤ Rows.uptoBulkAll [(DataW.lit (.bool b), ([] : List MemPlace)).1, y1.1, y2.1] + 1
    show d.length ≤ _
    omega
  · show _ ≤ Rows.uptoBulkAll [(DataW.lit (.bool b), ([] : List MemPlace)).1, y1.1, y2.1] + 1
    have := hb s hs
    omega
end Go.Proofs.YtnkepdeegpampaaGreatDoor

/-
  A command that came in lies in memory, and its texts are no longer than the reading's bulk; what the program's table of words holds. No conditions.
-/
namespace Go.Proofs.YtnkepdeegpampaaGreatDoor
open Go.ChangeShapes Go.RowKit
variable {H : Type} {enc : TypeId × Value → H} {W : World} {fuel : Nat}

theorem CmFits.mono {c : Cm} {n m : Nat} (h : CmFits c n) (hm : n ≤ m) : CmFits c m := ⟨Nat.le_trans h.arg hm, h.path.mono hm, fun p hp => ⟨Nat.le_trans (h.pms p hp).1 hm, Nat.le_trans (h.pms p hp).2 hm⟩⟩
theorem zU8 : Tryz.prog.cellsOf 5 = 1 := by kernel_rfl
theorem zPm : Tryz.prog.cellsOf 45 = 3 := by kernel_rfl
theorem zPms : Tryz.prog.cellsOf 27 = 1 := by kernel_rfl
theorem zCmd : Tryz.prog.cellsOf 29 = 8 := by kernel_rfl
theorem of4 {α : Type} (l : List α) (h : l.length = 4) : ∃ a0 a1 a2 a3, l = [a0, a1, a2, a3] := by
  match l, h with
  | [a0, a1, a2, a3], _ => exact ⟨a0, a1, a2, a3, rfl⟩
theorem of8 {α : Type} (l : List α) (h : l.length = 8) : ∃ a0 a1 a2 a3 a4 a5 a6 a7, l = [a0, a1, a2, a3, a4, a5, a6, a7] := by
  match l, h with
  | [a0, a1, a2, a3, a4, a5, a6, a7], _ => exact ⟨a0, a1, a2, a3, a4, a5, a6, a7, rfl⟩
set_option maxRecDepth 100000 in
theorem open_pm {cs : List Value} {x : DataW H × List MemPlace} (h : DataW.trod enc Tryz.prog W 0 (fun _ => true) true fuel 45 cs = some x) : ∃ p : Pm, cs = pmCells p ∧ p.key.length ≤ Rows.uptoBulk x.1 ∧ p.value.length ≤ Rows.uptoBulk x.1 := by
  obtain ⟨xs, n, rfl, rfl, hl, hlen, hf⟩ := DataW.trod_struct Tryz.underlying45 h
  rw [zPm] at hl
  have hlen : xs.length = 3 := hlen
  obtain ⟨c0, c1, c2, rfl⟩ := of3 cs hl
  obtain ⟨y0, y1, y2, rfl⟩ := of3 xs hlen
  have h0 : DataW.trod enc Tryz.prog W 0 (fun _ => true) true n 9 (([c0, c1, c2].drop 0).take (Tryz.prog.cellsOf 9)) = some y0 := hf 0 _ rfl
  have h1 : DataW.trod enc Tryz.prog W 0 (fun _ => true) true n 9 (([c0, c1, c2].drop 1).take (Tryz.prog.cellsOf 9)) = some y1 := hf 1 _ rfl
  have h2 : DataW.trod enc Tryz.prog W 0 (fun _ => true) true n 4 (([c0, c1, c2].drop 2).take (Tryz.prog.cellsOf 4)) = some y2 := hf 2 _ rfl
  rw [zString] at h0 h1
  rw [zBool] at h2
  obtain ⟨s0, e0, rfl, _⟩ := DataW.trod_string Tryz.underlying9 h0
  obtain ⟨s1, e1, rfl, _⟩ := DataW.trod_string Tryz.underlying9 h1
  obtain ⟨b, e2, rfl⟩ := DataW.trod_bool Tryz.underlying4 h2
  have g0 : c0 = .string s0 := by injection e0
  have g1 : c1 = .string s1 := by injection e1
  have g2 : c2 = .bool b := by injection e2
  subst g0 g1 g2
  refine ⟨⟨s0.data.toList, s1.data.toList, b⟩, rfl, ?_, ?_⟩
  · show s0.data.toList.length ≤ ((s0.data.toList.length + 1) + ((s1.data.toList.length + 1) + (Rows.uptoBulk _ + 0))) + 1
    omega
  · show s1.data.toList.length ≤ ((s0.data.toList.length + 1) + ((s1.data.toList.length + 1) + (Rows.uptoBulk _ + 0))) + 1
    omega
theorem bulk_pos (d : DataW H) : 1 ≤ Rows.uptoBulk d := by
  cases d with
  | lit x => cases x <;> simp [Rows.uptoBulk]
  | nil => simp [Rows.uptoBulk]
  | ptr d => simp [Rows.uptoBulk]
  | slice a b => simp [Rows.uptoBulk]
  | agg p => simp [Rows.uptoBulk]
  | iface t d => simp [Rows.uptoBulk]
  | map e => simp [Rows.uptoBulk]
  | held e => simp [Rows.uptoBulk]
theorem bulk_len : ∀ ds : List (DataW H), ds.length ≤ Rows.uptoBulkAll ds
  | [] => Nat.zero_le _
  | d :: ds => by
    have h1 := bulk_pos d
    have h2 := bulk_len ds
    rw [Rows.uptoBulkAll, List.length_cons]
    omega
theorem open_pmsB {cs : List Value} {x : DataW H × List MemPlace} (hbk : Rows.uptoBulk x.1 ≤ 1048576) (h : DataW.trod enc Tryz.prog W 0 (fun _ => true) true fuel 27 cs = some x) : ∃ a c l, cs = [.slice a (List.length l) c] ∧ PmsAt W a l ∧ ∀ p ∈ l, p.key.length ≤ Rows.uptoBulk x.1 ∧ p.value.length ≤ Rows.uptoBulk x.1 := by
  rcases DataW.trod_slice Tryz.underlying27 h with ⟨hn, rfl⟩ | ⟨a, len, cap, elems, rest, m, rfl, hcs, rfl, hb, hl, hm, hlen, hel, _, _⟩
  · exact ⟨none, 0, [], hn, pms_none _ _, fun s hs => (by cases hs)⟩
  · have each : ∀ i : Nat, ∃ p : Pm, i < len → (∀ r, r < 3 → W.cell? (a.add (i * 3 + r)) = (pmCells p)[r]?) ∧ ∃ y, elems[i]? = some y ∧ p.key.length ≤ Rows.uptoBulk y.1 ∧ p.value.length ≤ Rows.uptoBulk y.1 := fun i => by
      by_cases hi : i < len
      · have he := hel i hi
        rw [List.getElem?_eq_getElem (by omega), zPm, Option.bind_eq_some_iff] at he
        obtain ⟨cs', hc', ht'⟩ := he
        obtain ⟨p, rfl, e2, e3⟩ := open_pm ht'
        obtain ⟨_, _, hcell⟩ := World.cells?_some hc'
        refine ⟨p, fun _ => ⟨fun r hr => ?_, _, List.getElem?_eq_getElem (by omega), e2, e3⟩⟩
        have h0 := hcell r hr
        have e : (a.add (i * 3)).add r = a.add (i * 3 + r) := by
          unfold Addr.add
          by_cases h1 : i * 3 = 0 <;> by_cases h2 : r = 0 <;> simp [h1, h2, Nat.add_assoc]
        rw [e] at h0
        exact h0
      · exact ⟨⟨[], [], false⟩, fun h => absurd h hi⟩
    obtain ⟨f, hf⟩ := Classical.axiomOfChoice each
    have hkl : ((List.range len).map f).length = len := by simp
    refine ⟨some a, cap, (List.range len).map f, by rw [hkl]; exact hcs, row_of a _ ?_ fun j hj => ?_, fun p hp => ?_⟩
    · rw [pmFlat_len, hkl]
      have h1 := bulk_len (elems.map (·.1))
      rw [List.length_map, hlen] at h1
      have h2 : Rows.uptoBulkAll (elems.map (·.1)) + Rows.uptoBulkAll (rest.map (·.1)) + 1 ≤ 1048576 := hbk
      unfold maxLen
      omega
    · rw [pmFlat_len, hkl] at hj
      have hi : j / 3 < len := by omega
      have hjr : j = j / 3 * 3 + j % 3 := by omega
      have hk : j / 3 < ((List.range len).map f).length := by rw [hkl]; exact hi
      have h1 := (hf (j / 3) hi).1 (j % 3) (Nat.mod_lt _ (by decide))
      have h2 := pmFlat_at ((List.range len).map f) (j / 3) hk (j % 3) (Nat.mod_lt _ (by decide))
      rw [← hjr] at h1 h2
      rw [h1, ← List.getElem?_eq_getElem, h2, List.getElem_map, List.getElem_range]
    · obtain ⟨i, hi, rfl⟩ := List.mem_map.1 hp
      have hi := List.mem_range.1 hi
      obtain ⟨_, y, h1, h2, h3⟩ := hf i hi
      have := bulk_of (elems.map (·.1)) i y.1 (by rw [List.getElem?_map, h1]; rfl)
      have hh : Rows.uptoBulkAll (elems.map (·.1)) ≤ Rows.uptoBulkAll (elems.map (·.1)) + Rows.uptoBulkAll (rest.map (·.1)) + 1 := by omega
      exact ⟨Nat.le_trans h2 (Nat.le_trans this hh), Nat.le_trans h3 (Nat.le_trans this hh)⟩
set_option maxRecDepth 100000 in
theorem open_cmdB {cs : List Value} {x : DataW H × List MemPlace} (hbk : Rows.uptoBulk x.1 ≤ 1048576) (h : DataW.trod enc Tryz.prog W 0 (fun _ => true) true fuel 29 cs = some x) : ∃ (C : Cm) (a1 : Option Addr) (c1 : Nat) (a2 : Option Addr) (c2 : Nat), cs = (cmCells C (.slice a1 C.path.route.length c1) (.slice a2 C.params.length c2)).toList ∧ C.verb ≤ 255 ∧ CmIn W C a1 c1 a2 ∧ CmFits C (Rows.uptoBulk x.1) := by
  obtain ⟨xs, n, rfl, rfl, hl, hlen, hf⟩ := DataW.trod_struct Tryz.underlying29 h
  rw [zCmd] at hl
  have hlen : xs.length = 4 := hlen
  obtain ⟨c0, c1, c2, c3, c4, c5, c6, c7, rfl⟩ := of8 cs hl
  obtain ⟨y0, y1, y2, y3, rfl⟩ := of4 xs hlen
  have h0 : DataW.trod enc Tryz.prog W 0 (fun _ => true) true n 5 (([c0, c1, c2, c3, c4, c5, c6, c7].drop 0).take (Tryz.prog.cellsOf 5)) = some y0 := hf 0 _ rfl
  have h1 : DataW.trod enc Tryz.prog W 0 (fun _ => true) true n 9 (([c0, c1, c2, c3, c4, c5, c6, c7].drop 1).take (Tryz.prog.cellsOf 9)) = some y1 := hf 1 _ rfl
  have h2 : DataW.trod enc Tryz.prog W 0 (fun _ => true) true n 26 (([c0, c1, c2, c3, c4, c5, c6, c7].drop 2).take (Tryz.prog.cellsOf 26)) = some y2 := hf 2 _ rfl
  have h3 : DataW.trod enc Tryz.prog W 0 (fun _ => true) true n 27 (([c0, c1, c2, c3, c4, c5, c6, c7].drop 7).take (Tryz.prog.cellsOf 27)) = some y3 := hf 3 _ rfl
  rw [zU8] at h0
  rw [zString] at h1
  rw [zPath] at h2
  rw [zPms] at h3
  have hall : Rows.uptoBulk y0.1 + Rows.uptoBulk y1.1 + Rows.uptoBulk y2.1 + Rows.uptoBulk y3.1 ≤ Rows.uptoBulkAll [y0.1, y1.1, y2.1, y3.1] := by
    simp only [Rows.uptoBulkAll]
    omega
  have hbk2 : Rows.uptoBulkAll [y0.1, y1.1, y2.1, y3.1] + 1 ≤ 1048576 := hbk
  obtain ⟨k, e0, _, hk⟩ := DataW.trod_int Tryz.underlying5 h0
  obtain ⟨s, e1, es, _⟩ := DataW.trod_string Tryz.underlying9 h1
  obtain ⟨P, a1, cp, e2, ht, hfit, hroom⟩ := open_pathB h2
  obtain ⟨a2, cq, L, e3, hpm, hfl⟩ := open_pmsB (by omega) h3
  have g0 : c0 = .int .u8 k := by injection e0
  have g1 : c1 = .string s := by injection e1
  have g3 : c7 = .slice a2 L.length cq := by
    have e3' : [c7] = [Value.slice a2 L.length cq] := e3
    injection e3'
  have e2' : [c2, c3, c4, c5, c6] = [Value.bool P.null, .slice a1 P.route.length cp, .string (bs P.loc), .string (bs P.dom), .bool P.lit] := e2
  simp only [List.cons.injEq, and_true] at e2'
  obtain ⟨q2, q3, q4, q5, q6⟩ := e2'
  subst g0 g1 g3 q2 q3 q4 q5 q6
  have hkr : 0 ≤ k ∧ k ≤ 255 := by
    simp [Lit.wf, IntKind.min, IntKind.max, IntKind.signed, IntKind.bits] at hk
    omega
  have hkn : ((k.toNat : Nat) : Int) = k := Int.toNat_of_nonneg hkr.1
  have hsb : s.data.toList.length + 1 ≤ Rows.uptoBulk y1.1 := by rw [es]; exact Nat.le_refl _
  refine ⟨⟨k.toNat, s.data.toList, P, L⟩, a1, cp, a2, cq, ?_, ?_, ⟨ht, hroom, hpm⟩, ⟨?_, ?_, fun p hp => ?_⟩⟩
  · simp only [cmCells]
    rw [hkn]
    rfl
  · show k.toNat ≤ 255
    omega
  · show s.data.toList.length ≤ Rows.uptoBulkAll [y0.1, y1.1, y2.1, y3.1] + 1
    omega
  · show PaFits P (Rows.uptoBulkAll [y0.1, y1.1, y2.1, y3.1] + 1)
    exact hfit.mono (by omega)
  · obtain ⟨k1, k2⟩ := hfl p hp
    show p.key.length ≤ Rows.uptoBulkAll [y0.1, y1.1, y2.1, y3.1] + 1 ∧ p.value.length ≤ Rows.uptoBulkAll [y0.1, y1.1, y2.1, y3.1] + 1
    exact ⟨by omega, by omega⟩
theorem zWords : Tryz.prog.cellsOf 59 = 12 := by kernel_rfl
theorem gWords : Tryz.prog.globalNamed "franking/command.words" = some 0 := by kernel_rfl
theorem gWordsType : (Tryz.prog.globals[0]?).map (·.type) = some 59 := by kernel_rfl
/-- the table of words holds the words -/
theorem words_of {rest : List (String × DataW Unit)} (h : laidMet Tryz.prog (("franking/command.words", Rows.laid_franking_command_words) :: rest) W) : ∀ i, i < 12 → W.cell? ⟨0, i, none⟩ = some (.string (bs (wordP i))) := by
  obtain ⟨ps, ⟨g', t', cs, fuel, p, q, hg', ht', hvar, hd, _, _⟩, _⟩ := h
  obtain rfl := Option.some.inj (gWords.symm.trans hg')
  obtain rfl := Option.some.inj (gWordsType.symm.trans ht')
  intro i hi
  rw [World.var?_cell gWords hvar i]
  obtain ⟨xs, m, rfl, hx, hl, hlen, hf⟩ := DataW.trod_array Tryz.underlying59 hd
  have hi2 := hf i hi
  rw [zString, Nat.mul_one] at hi2
  have hxs : xs.map (·.1) = wordsV.map fun s => (DataW.lit (.string s) : DataW Unit) := by
    have := congrArg Prod.fst hx
    have e : (Rows.laid_franking_command_words : DataW Unit) = .agg (wordsV.map fun s => (DataW.lit (.string s) : DataW Unit)) := rfl
    rw [e] at this
    exact (DataW.agg.inj this).symm
  have hxi : i < xs.length := by omega
  rw [List.getElem?_eq_getElem hxi] at hi2
  obtain ⟨s, e1, e2, _⟩ := DataW.trod_string Tryz.underlying9 hi2
  have h1 : cs.toList[i]? = some (.string s) := by
    have := congrArg (·[0]?) e1
    simpa [List.getElem?_take, List.getElem?_drop] using this
  have h2 : (xs.map (·.1))[i]? = some (DataW.lit (.string s.data.toList)) := by
    rw [List.getElem?_map, List.getElem?_eq_getElem hxi, e2]
    rfl
  rw [hxs, List.getElem?_map] at h2
  have hw : wordsV[i]? = some (wordP i) := by
    unfold wordP
    rw [List.getD_eq_getElem?_getD]
    have hlw : i < wordsV.length := hi
    rw [List.getElem?_eq_getElem hlw]
    rfl
  rw [hw] at h2
  have h3 : wordP i = s.data.toList := by
    rw [Option.map_some] at h2
    exact Lit.string.inj (DataW.lit.inj (Option.some.inj h2))
  rw [← Array.getElem?_toList, h1, h3]
  rfl
end Go.Proofs.YtnkepdeegpampaaGreatDoor

/-
  CommandLong answers true, and leaves its arguments as they were, for every input: the row, and the tied card. Conditions: the listed variables as the library's text lays them (the card ties them).
-/
namespace Go.Proofs.YtnkepdeegpampaaGreatDoor.commandLong
open Go.ChangeShapes Go.WideShapes Go.ChangeAt Go.RowKit
open Go.ChangeMaps (open_string shut_string)

theorem own : ownKnob Tryz.prog.godebug = none := by kernel_rfl
theorem laidOut : laidOutB Tryz.prog = true := by kernel_rfl
theorem gEs : Tryz.prog.globalNamed "strconv.ErrSyntax" = some ErrG := by kernel_rfl
theorem gEsType : (Tryz.prog.globals[ErrG]?).map (·.type) = some 70 := by kernel_rfl
theorem cellsE : Tryz.prog.cellsOf 148 = 1 := by kernel_rfl
theorem cellsS : Tryz.prog.cellsOf 9 = 1 := by kernel_rfl
theorem star : "*" ++ "errors.errorString" = "*errors.errorString" := by decide
theorem rowE (u : TypeId) (h : Tryz.prog.typeName? 3 u = some "*errors.errorString") : u = 146 :=
  typeName_ptr_named (nm := "errors.errorString") (by rw [star]; kernel_rfl) (by kernel_rfl) (by decide) u (by rw [star]; exact h)
theorem env_of_laid {W : World} (h : laidMetH Tryz.prog Rows.commandLongRow.laid W) (hS : W.ShapedOpen Tryz.prog) : Env W := by
  rw [MakeChecks.laidMetH_plain _ _ _ (by kernel_rfl)] at h
  have h' : laidMet Tryz.prog [("math/bits.deBruijn32tab", Rows.laid_math_bits_deBruijn32tab), ("math/bits.deBruijn64tab", Rows.laid_math_bits_deBruijn64tab), ("internal/strconv.uint64pow10", Rows.laid_internal_strconv_uint64pow10), ("unicode/utf8.acceptRanges", Rows.laid_unicode_utf8_acceptRanges), ("strconv.ErrRange", Rows.laid_strconv_ErrRange), ("strconv.ErrSyntax", Rows.laid_strconv_ErrSyntax), ("franking/command.words", Rows.laid_franking_command_words), ("unicode/utf8.first", Rows.laid_unicode_utf8_first)] W := h
  obtain ⟨a0, s0, hv0, -, -, -⟩ := laid_sentinel h'.tail.tail.tail.tail.tail gEs gEsType Tryz.underlying70 rowE Tryz.underlying146 Tryz.underlying148 rfl rfl Tryz.underlying9 cellsE cellsS
  have h0 : W.cell? ⟨ErrG, 0, none⟩ = some (.iface 146 (.pointer (some a0))) := by have h0 := World.var?_cell gEs hv0 0; simpa using h0
  obtain ⟨mx, hmx⟩ := cell_of_shapedOpen_int (g := 1) (zero := #[.int .i64 0]) (t := 3) hS (of_decide_eq_true (by kernel_rfl)) (by kernel_rfl) rfl (by kernel_rfl) (by kernel_rfl) Tryz.underlying3
  exact ⟨⟨⟨_, h0, Or.inr ⟨_, _, rfl⟩⟩, World.block_lt_of_cell? _ _ h0⟩, ⟨mx, hmx⟩, words_of h'.tail.tail.tail.tail.tail.tail⟩
theorem bs_self (s : ByteArray) : bs s.data.toList = s := rfl

abbrev inp : Array Value := #[.int .u8 0, .int .u8 0]
theorem reads (os : Os) {H : Type} (enc : TypeId × Value → H) : ∃ places, DataW.whole enc Tryz.prog ((World.laidAll Tryz.prog os Rows.commandLongRow.laid).forCall (fun _ _ => 0) ⟨#[], inp, []⟩).memory Tryz.f7.params.toList Rows.commandLongSpec.vars false inp.toList 8 = some ([.lit (.int .u8 0), .lit (.int .u8 0)], [], places) :=
  ⟨[], by kernel_rfl⟩

set_option maxRecDepth 100000 in
theorem contract (H : Type) (enc : TypeId × Value → H) (W : World) (base : Nat) (args : Array Value) (ds gs : List (DataW H)) (before : List MemPlace)
    (hval0 : ∀ (j : Nat) t v, Tryz.f7.params[j]? = some t → args[j]? = some v → Value.okWide Tryz.prog W .any base t v)
    (hW : DataW.Whole enc Tryz.prog Tryz.f7.params.toList Rows.commandLongSpec.vars false W args.toList ds gs before) (hL : laidMetH Tryz.prog Rows.commandLongRow.laid W) (hS : W.ShapedOpen Tryz.prog) :
    Calls Tryz.prog 7 args W fun e W' => ∃ v, e = .returned v ∧ Rows.commandLongSpec.post enc Tryz.prog Tryz.f7 false true false false W args v W' := by
  have hval : ∀ (j : Nat) t v, Tryz.f7.params[j]? = some t → args[j]? = some v → Value.okWide Tryz.prog W .any base t v := hval0
  have hW' := hW
  obtain ⟨p, q, hA0, hV, rfl, _, _⟩ := hW
  have hA : DataW.TrodAll enc Tryz.prog W 0 (fun _ => true) true Tryz.f7.params.toList args.toList ds p := hA0
  rw [Tryz.params7] at hA hval
  obtain ⟨v0, vs0, d0, ds0, p0, q0, hargs, rfl, rfl, h0, r0⟩ := trodAll_cons hA
  obtain ⟨v1, vs1, d1, ds1, p1, q1, rfl, rfl, rfl, h1, r1⟩ := trodAll_cons r0
  obtain ⟨rfl, rfl, rfl⟩ := trodAll_nil r1
  obtain rfl : args = #[v0, v1] := by cases args; simp_all
  obtain ⟨rfl, rfl⟩ := trodVars_none hV
  have k0 := h0
  have lt0 : ∀ x ∈ p0, x.block < W.heap.size := by obtain ⟨m, hm⟩ := k0; exact DataW.trod_lt m _ _ _ hm
  have k1 := h1
  have lt1 : ∀ x ∈ p1, x.block < W.heap.size := by obtain ⟨m, hm⟩ := k1; exact DataW.trod_lt m _ _ _ hm
  obtain ⟨z, rfl⟩ := okWide_int Tryz.underlying5 (hval 0 5 v0 rfl rfl)
  obtain ⟨m0, rfl, u0⟩ : ∃ m : Nat, z = (m : Int) ∧ m < 256 := by
    obtain ⟨fuel, hf⟩ := h0
    obtain ⟨k, e0, _, hz⟩ := DataW.trod_int Tryz.underlying5 hf
    have e1 : z = k := by injection e0 with e0 _; injection e0
    subst e1
    simp [Lit.wf, IntKind.min, IntKind.max, IntKind.signed, IntKind.bits] at hz
    exact ⟨z.toNat, by omega, by omega⟩
  obtain ⟨z, rfl⟩ := okWide_int Tryz.underlying5 (hval 1 5 v1 rfl rfl)
  obtain ⟨m1, rfl, u1⟩ : ∃ m : Nat, z = (m : Int) ∧ m < 256 := by
    obtain ⟨fuel, hf⟩ := h1
    obtain ⟨k, e0, _, hz⟩ := DataW.trod_int Tryz.underlying5 hf
    have e1 : z = k := by injection e0 with e0 _; injection e0
    subst e1
    simp [Lit.wf, IntKind.min, IntKind.max, IntKind.signed, IntKind.bits] at hz
    exact ⟨z.toNat, by omega, by omega⟩
  have htz := env_of_laid hL hS
  clear hA0 hval0
  refine (long16_any m0 m1 u0 u1 W htz).mono fun e W' ⟨he, bel⟩ => ?_
  subst he
  exact ⟨_, rfl, _, _, _, [], _, [], hW', trodAll_mk1 (shut_bool Tryz.underlying4 _), (trodAll_cons_mk (Below.trod laidOut (by kernel_rfl) (of_decide_eq_true (by kernel_rfl)) k0 bel lt0) (trodAll_cons_mk (Below.trod laidOut (by kernel_rfl) (of_decide_eq_true (by kernel_rfl)) k1 bel lt1) trodAll_mk0)), rfl, bel.frame _, fun h => by cases h⟩

set_option maxRecDepth 100000 in
theorem lifted (os : Os) (started : os.Started) (H : Type) (enc : TypeId × Value → H) (J : Stop.Interp) :
    ReturnsInHanded {} Tryz.checked os 7 .any ((OpenSpec.ofChange Rows.commandLongSpec).preRow enc Tryz.prog Tryz.f7 Rows.commandLongRow.domain false Rows.commandLongRow.laid) (((OpenSpec.ofChange Rows.commandLongSpec).at J).post enc Tryz.prog Tryz.f7 false true false false) := by
  obtain ⟨places, hx⟩ := reads os enc
  have hok : Input.okWideB Tryz.prog ((World.laidAll Tryz.prog os Rows.commandLongRow.laid).forCall (fun _ _ => 0) ⟨#[], inp, []⟩) 7 ⟨#[], inp, []⟩ = true := by kernel_rfl
  refine returnsInHanded_of_row (C := Tryz.checked) (s := OpenSpec.ofChange Rows.commandLongSpec) own started (by kernel_rfl) Tryz.func7
    ⟨World.laidAll Tryz.prog os Rows.commandLongRow.laid, fun _ _ => 0, ⟨#[], inp, []⟩, World.laidAll_os _ _ _, World.shaped_of_ZipB (by kernel_rfl) (by kernel_rfl), rfl, (Input.okWide_of_okWideB hok).2,
      OpenSpec.preRow_of_cond 8 hx (by kernel_rfl) (fun k hk => by cases hk) (by kernel_rfl) (by rw [MakeChecks.laidMetH_plain _ _ _ (by kernel_rfl)]; exact laidMet_laidAll _ (by kernel_rfl) (by kernel_rfl)), by
        simp only [Assume.holds]
        exact ⟨by simp, by simp, fun _ => Modest.zero, by simp, by simp⟩⟩ ?_
  intro W base args ds gs before hval hW _ _ _ hL hS _
  exact contract H enc W base args ds gs before hval hW hL hS

theorem holds : Rows.CommandLongSaid :=
  OpenClaim.holds_of_cond 7 Tryz.f7 rfl rfl rfl rfl rfl rfl rfl ⟨rfl, rfl, rfl, rfl, rfl⟩ rfl rfl rfl rfl rfl (by kernel_rfl) Tryz.func7 (by kernel_rfl)
    (of_decide_eq_true (by kernel_rfl)) (by unfold Func.isWrapper; first | (rw [if_pos (by decide +kernel)]; kernel_rfl) | (rw [if_neg (by decide +kernel)]; exact ⟨rfl, rfl⟩))
    (fun os started H enc _ J => by rw [OpenClaim.pre_eq_preRow]; exact lifted os started H enc J)
theorem card_holds : Rows.CommandLongCardSaid :=
  Claim7.holds_tied_plain_at .later [] [.data, .data, .data, .data, .sentinel, .sentinel, .data, .pinned] true Rows.commandLongCard.stood.harness true holds (fun _ h => by cases h) (by kernel_rfl) (fun _ h => by cases h) commandLong_row_tie rfl ⟨rfl, rfl⟩ (by kernel_rfl) rfl
    (fun f fn hf hfn => by
      obtain rfl : f = 7 := Option.some.inj ((show Tryz.prog.funcNamed "franking/frankinglaw16.CommandLong" = some 7 by kernel_rfl).symm.trans hf) |>.symm
      obtain rfl : fn = Tryz.f7 := (Option.some.inj (Tryz.func7.symm.trans hfn)).symm
      exact ⟨by kernel_rfl, fun j t ht => by
        rw [Tryz.params7] at ht
        have hm : t ∈ [5, 5] := by simpa using Array.mem_of_getElem? ht
        have hall : ([5, 5].all fun u => !Tryz.prog.wantsStandIn u) = true := by kernel_rfl
        exact (show Tryz.prog.wantsStandIn t = false by simpa using List.all_eq_true.1 hall t hm)⟩)
    (by kernel_rfl)
end Go.Proofs.YtnkepdeegpampaaGreatDoor.commandLong
