/-
  The contract of lex.readValues: what it answers for every text. Conditions: a text of at most 65536 bytes.
-/
import Derived.Test.YtciabhboiomehaaDoorPiecesD
namespace Go.Proofs.YtciabhboiomehaaDoor
open Go.RowKit

def numsText (nums : List Int) : List UInt8 := nums.map fun n => UInt8.ofNat n.toNat
theorem bs_nums (nums : List Int) : strOfNums nums = bs (numsText nums) := rfl

/-- values with points between, from a place on -/
def moreVals (l : List UInt8) (base : Int) : Nat → Nat → List Int → Option (List Int × Nat)
  | 0, _, _ => none
  | f + 1, k, nums =>
    if standsB l k 46 = true then
      match valueZ l (k + 1) base with
      | none => none
      | some (v, k2) => moreVals l base f k2 (nums ++ [v])
    else some (nums, k)

def wrongP : Pc := { bad := 0, err := 15 }
def bytesOf : Option (List Int × Nat) → Pc
  | none => wrongP
  | some (nums, k) => { tok := { kind := 11, text := numsText nums }, size := k }
def rangeOf (a : Int) : Option (Int × Nat) → Pc
  | none => wrongP
  | some (b, k) => if b < a then wrongP else { tok := { kind := 12, lo := a, hi := b }, size := k }
def valuesOf (l : List UInt8) (base : Int) : Option (Int × Nat) → Pc
  | none => wrongP
  | some (a, k) => if standsB l k 45 = true then rangeOf a (valueZ l (k + 1) base) else bytesOf (moreVals l base (l.length + 1) k [a])
def valuesP (l : List UInt8) : Pc := valuesOf l (baseZ l) (valueZ l 2 (baseZ l))

theorem moreVals_end {l : List UInt8} {base : Int} {f k : Nat} {nums : List Int} (hf : l.length < f + k) (hk : k ≤ l.length) (hs : standsB l k 46 = false) : moreVals l base f k nums = some (nums, k) := by
  cases f with
  | zero => omega
  | succ f => rw [moreVals, if_neg (by simp [hs])]
theorem moreVals_none {l : List UInt8} {base : Int} {f k : Nat} {nums : List Int} (hs : standsB l k 46 = true) (hv : valueZ l (k + 1) base = none) : moreVals l base f k nums = none := by
  cases f with
  | zero => rfl
  | succ f => rw [moreVals, if_pos hs, hv]
theorem moreVals_some {l : List UInt8} {base : Int} {f k k2 : Nat} {nums : List Int} {v : Int} (hs : standsB l k 46 = true) (hv : valueZ l (k + 1) base = some (v, k2)) :
    moreVals l base (f + 1) k nums = moreVals l base f k2 (nums ++ [v]) := by
  rw [moreVals, if_pos hs, hv]

theorem numberZ_bd' (base : Int) (hb0 : 0 ≤ base) (hb1 : base ≤ 16) (l : List UInt8) (n : Nat) (h : n ≤ l.length) : 0 ≤ numberZ base (l.take n) := (numberZ_bd base hb0 hb1 l n h).1

theorem valueZ_bd {l : List UInt8} {at_ : Nat} {base : Int} (hb0 : 0 ≤ base) (hb1 : base ≤ 16) {v : Int} {k : Nat} (h : valueZ l at_ base = some (v, k)) : 0 ≤ v ∧ v ≤ 255 ∧ at_ < k ∧ k ≤ l.length := by
  unfold valueZ at h
  have hle := spanZ_le (digitBelow base) (l.drop at_)
  rw [List.length_drop] at hle
  have hn := numberZ_bd' base hb0 hb1 (l.drop at_) (spanZ (digitBelow base) (l.drop at_)) (by rw [List.length_drop]; exact hle)
  split at h
  · cases h
  · split at h
    · cases h
    · split at h
      · cases h
      · injection h with h
        injection h with h1 h2
        omega
theorem standsB_lt {l : List UInt8} {k : Nat} {b : Int} (h : standsB l k b = true) : k < l.length := by
  unfold standsB at h
  simp only [Bool.and_eq_true, decide_eq_true_eq] at h
  exact h.1
theorem ownsRow_kept {B : Nat} {e : TypeId} {k : Nat} {v : Value} {n : Nat} {xs : List Value} {w w' : World} (h : w.ownsRow B e k v n xs) (hb : Below w.heap.size w w') : w'.ownsRow B e k v n xs :=
  h.kept (row := none) ⟨hb.os, hb.tape, hb.output, hb.size, fun i hi _ => hb.block i hi⟩ (by cases hv : v.ownBlock <;> simp)

theorem own_form {w : World} {base size n : Nat} {e : TypeId} {v : Value} {xs : List Value} (h : w.ownsRow base e size v n xs) (hn : 0 < n) : ∃ g cap, v = .slice (some ⟨g, 0, none⟩) n cap := by
  rcases h.2 with ⟨_, h0⟩ | ⟨g, cap, _, hv, _⟩
  · omega
  · exact ⟨g, cap, hv⟩

/-- a block that is known whole -/
def Blk (w : World) (g : Nat) (t : TypeId) (cs : Array Value) : Prop := w.heap[g]? = some (.cells cs t (0, 0))
theorem Blk.lt {w : World} {g : Nat} {t : TypeId} {cs : Array Value} (h : Blk w g t cs) : g < w.heap.size := by
  rcases Nat.lt_or_ge g w.heap.size with hlt | hge
  · exact hlt
  · unfold Blk at h; rw [Array.getElem?_eq_none hge] at h; cases h
theorem Blk.cell {w : World} {g : Nat} {t : TypeId} {cs : Array Value} (h : Blk w g t cs) (i : Nat) : w.cell? ⟨g, i, none⟩ = cs[i]? := cell_of_row w g i cs t (0, 0) h
theorem Blk.frozen {w : World} {g : Nat} {t : TypeId} {cs : Array Value} (h : Blk w g t cs) (i : Nat) : w.frozen? ⟨g, i, none⟩ = false := by
  unfold Blk at h
  simp [World.frozen?, h]
theorem Blk.new (w : World) (t : TypeId) (cs : Array Value) : Blk (w.alloc (.cells cs t)) w.heap.size t cs := heap_alloc_new w _
theorem Blk.alloc {w : World} {g : Nat} {t : TypeId} {cs : Array Value} (h : Blk w g t cs) (o : Obj) : Blk (w.alloc o) g t cs := (Below.heap_alloc w o g h.lt).trans h
theorem Blk.below {B : Nat} {w w' : World} {g : Nat} {t : TypeId} {cs : Array Value} (h : Blk w g t cs) (hb : Below B w w') (hg : g < B) : Blk w' g t cs := (hb.block g hg).trans h

def zeroCells : Array Value := #[.int .u8 0, .int .i64 0, .string ⟨#[]⟩, .int .i64 0, .int .i64 0, .int .u8 0, .int .u8 0, .int .i64 0, .int .i64 0, .int .i64 0]
def wrongCells : Array Value := #[.int .u8 0, .int .i64 0, .string ⟨#[]⟩, .int .i64 0, .int .i64 0, .int .u8 0, .int .u8 0, .int .i64 0, .int .i64 0, .int .i64 15]

theorem Tryd.infoU8 : (Tryd.prog.info? 5).map (fun i => (i.zero, i.size, i.bytes)) = some (some (.int .u8 0), 1, 1) := by kernel_rfl

set_option maxRecDepth 100000 in
set_option maxHeartbeats 2000000 in
theorem readValues_any (s : ByteArray) (hs : s.size ≤ 65536) (w : World) :
    Calls Tryd.prog 45 #[.string s] w fun e w' => e = .returned (pieceV (valuesP s.data.toList)) ∧ Below w.heap.size w w' := by
  have hbz := baseZ_bd s.data.toList
  have HP := Lib.hid (valuesP.eq_1 s.data.toList)
  generalize valuesP s.data.toList = P at *
  have HBASE := Lib.hid (fun W => baseOf_any s W)
  have HRV := Lib.hid (fun (at_ : Nat) W => readValue_any s at_ (baseZ s.data.toList) hs hbz.1 hbz.2 W)
  have HST := Lib.hid (fun (at_ : Nat) (b : Int) W => stands_any s at_ b W)
  have HLEN := Lib.hid (listLen s)
  have HVB := Lib.hid (fun (at_ : Nat) (v : Int) (k : Nat) (h : valueZ s.data.toList at_ (baseZ s.data.toList) = some (v, k)) => valueZ_bd hbz.1 hbz.2 h)
  generalize baseZ s.data.toList = base at *
  go_enter Tryd.func45, Tryd.ntmps45
  go_wp2_with fail
  refine (fault_any 0 15 _).mono ?_
  rintro e w1 ⟨rfl, hb⟩
  have hR1 : Blk w1 w.heap.size 100 zeroCells := (Blk.new w 100 zeroCells).below hb (by simp)
  have hB1 : Below w.heap.size w w1 := ((Below.refl _ _).alloc (Nat.le_refl _) _).trans (hb.mono (by simp))
  clear hb
  have hz := hR1.lt
  unfold pieceV
  go_wp2_with (go_at_call 72; refine (HBASE.out _).mono ?_; rintro e w' ⟨rfl, rfl⟩)
  refine (HRV.out 2 _).mono ?_
  rintro e w2 ⟨rfl, hb2⟩
  have hR2 : Blk w2 w.heap.size 100 zeroCells := (hR1.alloc _).below hb2 (by simp; omega)
  have hG2 : Blk w2 w1.heap.size 100 wrongCells := (Blk.new w1 100 wrongCells).below hb2 (by simp)
  have hB2 : Below w.heap.size w w2 := (hB1.alloc hB1.size _).trans (hb2.mono (by simp; omega))
  clear hb2 hB1 hR1
  generalize w1.heap.size = G at *
  have hne : G ≠ w.heap.size := by omega
  have hcR := hR2.cell
  have hfR := hR2.frozen
  have hcG := hG2.cell
  unfold zeroCells at hcR
  unfold wrongCells at hcG
  cases hv : valueZ s.data.toList 2 base with
  | none =>
    have HV := Lib.hid hv
    clear hv
    unfold valueV
    go_wp2
    refine bodyPost_ret (v := pieceV wrongP) ?_ rfl ⟨by rw [HP.out, HV.out]; rfl, ?_⟩
    · simp [results, Tryd.results45, go_sem, hcR]
      rfl
    · iterate 10 refine Below.setCell ?_ (by simp) _
      exact hB2
  | some ak =>
    obtain ⟨a, k⟩ := ak
    have hvb := HVB.out 2 a k hv
    rw [HLEN.out] at hvb
    have HV := Lib.hid hv
    clear hv
    unfold valueV
    have HST1 := Lib.hid (fun W => HST.out k 45 W)
    cases hst : standsB s.data.toList k 45 with
    | true =>
      rw [hst] at HST1
      have HS := Lib.hid hst
      clear hst
      go_wp2_with (go_at_call 71; refine (HST1.out _).mono ?_; rintro e w' ⟨rfl, rfl⟩)
      rw [show ((k : Int) + 1) = ((k + 1 : Nat) : Int) from by omega]
      refine (HRV.out (k + 1) _).mono ?_
      rintro e w3 ⟨rfl, hb3⟩
      clear hcR hfR hcG
      have hR3 := hR2.below hb3 hR2.lt
      have hG3 := hG2.below hb3 hG2.lt
      have hB3 := hB2.trans (hb3.mono hB2.size)
      clear hR2 hG2 hB2 hb3
      have hcR := hR3.cell
      have hfR := hR3.frozen
      have hcG := hG3.cell
      unfold zeroCells at hcR
      unfold wrongCells at hcG
      cases hv2 : valueZ s.data.toList (k + 1) base with
      | none =>
        have HV2 := Lib.hid hv2
        clear hv2
        unfold valueV
        go_wp2
        refine bodyPost_ret (v := pieceV wrongP) ?_ rfl ⟨by rw [HP.out, HV.out, valuesOf, if_pos HS.out, HV2.out]; rfl, ?_⟩
        · simp [results, Tryd.results45, go_sem, hcR]
          rfl
        · iterate 10 refine Below.setCell ?_ (by simp) _
          exact hB3
      | some bk =>
        obtain ⟨b, k2⟩ := bk
        have hvb2 := HVB.out (k + 1) b k2 hv2
        rw [HLEN.out] at hvb2
        have HV2 := Lib.hid hv2
        clear hv2
        unfold valueV
        by_cases hba : b < a
        · go_wp2
          refine bodyPost_ret (v := pieceV wrongP) ?_ rfl ⟨by rw [HP.out, HV.out, valuesOf, if_pos HS.out, HV2.out, rangeOf, if_pos hba], ?_⟩
          · simp [results, Tryd.results45, go_sem, hcR]
            rfl
          · iterate 10 refine Below.setCell ?_ (by simp) _
            exact hB3
        · have hba' : a ≤ b := by omega
          clear hba
          go_wp2
          refine bodyPost_ret (v := pieceV { tok := { kind := 12, lo := a, hi := b }, size := k2 }) ?_ rfl ⟨by rw [HP.out, HV.out, valuesOf, if_pos HS.out, HV2.out, rangeOf, if_neg (Int.not_lt.2 hba')], ?_⟩
          · simp [results, Tryd.results45, go_sem, hcR]
            rfl
          · iterate 10 refine Below.setCell ?_ (by simp) _
            exact hB3
    | false =>
      rw [hst] at HST1
      have HS := Lib.hid hst
      clear hst
      go_wp2_with (go_at_call 71; refine (HST1.out _).mono ?_; rintro e w' ⟨rfl, rfl⟩)
      have hown0 : (w2.alloc (.cells #[.int .u8 a] 5)).ownsRow w2.heap.size 5 1 (.slice (some ⟨w2.heap.size, 0, none⟩) 1 1) 1 [.int .u8 a] :=
        World.ownsRow_lit w2 #[.int .u8 a] 1 (Nat.le_refl _) (by decide) rfl
      have hBelow0 : Below w2.heap.size w2 (w2.alloc (.cells #[.int .u8 a] 5)) := (Below.refl _ _).alloc (Nat.le_refl _) _
      have HR : Hid (P = bytesOf (moreVals s.data.toList base (s.data.toList.length + 1) k [a])) := by
        show P = _
        rw [HP.out, HV.out, valuesOf, if_neg (by rw [HS.out]; simp)]
      clear hcR hfR hcG HP HST1 HS HV
      generalize w2.alloc (.cells #[.int .u8 a] 5) = W0 at *
      go_loopw [6, 11] (fun sz v wr => ∃ (k f : Nat) (nums : List Int), k ≤ s.size ∧ sz = .int .i64 k ∧ wr.ownsRow w2.heap.size 5 1 v nums.length (nums.map (Value.int .u8)) ∧ 1 ≤ nums.length ∧ nums.length ≤ k ∧
          Below w2.heap.size w2 wr ∧ s.size < f + k ∧ Hid (P = bytesOf (moreVals s.data.toList base f k nums))) (fun sz _ _ => s.size - (intOf sz).toNat)
      case atStart => exact ⟨k, s.data.toList.length + 1, [a], by omega, rfl, hown0, by simp, by simp; omega, hBelow0, by rw [HLEN.out]; omega, HR⟩
      case round =>
        clear HR hown0 hBelow0
        obtain ⟨k, f, nums, hk, rfl, hown, hn1, hnk, hbel, hfk, HR⟩ := hrel
        have HST1 := Lib.hid (fun W => HST.out k 46 W)
        cases hst : standsB s.data.toList k 46 with
        | false =>
          rw [hst] at HST1
          have HM := Lib.hid (moreVals_end (base := base) (nums := nums) (by rw [HLEN.out]; exact hfk) (by rw [HLEN.out]; exact hk) hst)
          clear hst
          obtain ⟨g, cap, rfl⟩ := own_form hown (by omega)
          have hcv := run_convert_bytes_arg (P := Tryd.prog) wr 22 5 Tryd.underlying22 Tryd.underlying5 g 0 nums.length cap nums rfl (fun i hi => by
            rw [Nat.zero_add, hown.cellAt i (by omega)]
            simp [List.getD, List.getElem?_eq_getElem hi]) 9 Tryd.underlying9
          rw [bs_nums] at hcv
          have hR4 := hR2.below hbel hR2.lt
          have hcR := hR4.cell
          have hfR := hR4.frozen
          unfold zeroCells at hcR
          have HOWN := Lib.hid hown
          clear hown
          go_wp2_with (go_at_call 71; refine (HST1.out _).mono ?_; rintro e w' ⟨rfl, rfl⟩)
          refine bodyPost_ret (v := pieceV { tok := { kind := 11, text := numsText nums }, size := k }) ?_ rfl ⟨by rw [HR.out, HM.out]; rfl, ?_⟩
          · simp [results, Tryd.results45, go_sem, hcR]
            rfl
          · iterate 10 refine Below.setCell ?_ (by simp) _
            exact hB2.trans (hbel.mono hB2.size)
        | true =>
          rw [hst] at HST1
          have hklt := standsB_lt hst
          rw [HLEN.out] at hklt
          have HS := Lib.hid hst
          clear hst
          go_wp2_with (go_at_call 71; refine (HST1.out _).mono ?_; rintro e w' ⟨rfl, rfl⟩)
          rw [show ((k : Int) + 1) = ((k + 1 : Nat) : Int) from by omega]
          refine (HRV.out (k + 1) _).mono ?_
          rintro e w4 ⟨rfl, hb4⟩
          have hbel4 : Below w2.heap.size w2 w4 := hbel.trans (hb4.mono hbel.size)
          have hown4 := ownsRow_kept hown hb4
          clear hown hb4 hbel
          have hR4 := hR2.below hbel4 hR2.lt
          have hG4 := hG2.below hbel4 hG2.lt
          cases hv2 : valueZ s.data.toList (k + 1) base with
          | none =>
            have HM := Lib.hid (moreVals_none (f := f) (nums := nums) HS.out hv2)
            clear hv2
            have hcR := hR4.cell
            have hfR := hR4.frozen
            have hcG := hG4.cell
            unfold zeroCells at hcR
            unfold wrongCells at hcG
            unfold valueV
            go_wp2
            refine bodyPost_ret (v := pieceV wrongP) ?_ rfl ⟨by rw [HR.out, HM.out]; rfl, ?_⟩
            · simp [results, Tryd.results45, go_sem, hcR]
              rfl
            · iterate 10 refine Below.setCell ?_ (by simp) _
              exact hB2.trans (hbel4.mono hB2.size)
          | some bk =>
            obtain ⟨b, k2⟩ := bk
            have hvb2 := HVB.out (k + 1) b k2 hv2
            rw [HLEN.out] at hvb2
            obtain ⟨f, rfl⟩ : ∃ f', f = f' + 1 := ⟨f - 1, by omega⟩
            have HM := Lib.hid (moreVals_some (f := f) (nums := nums) HS.out hv2)
            clear hv2
            unfold valueV
            obtain ⟨i0, hi, hz0, hz1, hz2⟩ := info_parts Tryd.infoU8
            go_wp2_with (at_builtin; refine wpList_append_own _ rfl _ _ 22 rfl w2.heap.size 5 i0 (.int .u8 0) 1 1 Tryd.underlying22 hi hz0 hz1 hz2 rfl (by decide) _ _ _ rfl (hown4.alloc _) ⟨w4.heap.size, 0, none⟩ 1 1 [.int .u8 b] rfl rfl ?c1 ?c2 ?c3 ?c4 ?c5 ?_)
            case c1 =>
              intro j u hj
              match j, hj with
              | 0, hj => simp at hj; subst hj; simp [Addr.add]
            case c2 => intro u hu; simp at hu; subst hu; rfl
            case c3 => unfold maxLen; omega
            case c4 => omega
            case c5 => have := hbel4.size; simp; omega
            intro v' w5 hown' hgrow _
            have hbel5 : Below w2.heap.size w2 w5 := (hbel4.alloc hbel4.size _).grown hgrow (by simp; have := hbel4.size; omega) (fun g hg => (hown4.lt g hg).1)
            clear hgrow hown4 hR4 hG4
            go_wp2
            go_roundw
            case rel => exact ⟨k2, f, nums ++ [b], by omega, rfl, by simpa using hown', by simp, by simp; omega, hbel5, by omega, by show P = _; rw [HR.out, HM.out]⟩
            case measure => simp [intOf]; omega
end Go.Proofs.YtciabhboiomehaaDoor
