/-
  Merged texts (PiecesD, PiecesE, Starts, Table, Lexer, Pure, Tokens, Lines, Lex, Low, WholeQ), each under a head of its own that says what it proves and under which conditions.
-/
import Derived.Test.YtodenbimeojgdaaGreatDoorM01
import Derived.Deep.AppendLies
import Derived.Deep.RegionLaw
/-
  The contract of lex.readChars: what it answers for every text. Conditions: a text of 1 to 65536 bytes.
-/
namespace Go.Proofs.YtodenbimeojgdaaGreatDoor
open Go.RowKit

/-- the place of the quote that closes, if there is one, and nothing stands ahead of it that may not -/
def quoteAt : List UInt8 → Option Nat
  | [] => none
  | c :: r => if (c.toNat : Int) = 34 then some 0 else if (c.toNat : Int) < 32 ∨ 126 < (c.toNat : Int) then none else (quoteAt r).map (· + 1)

def charsOf (l : List UInt8) : Option Nat → Pc
  | some i => { tok := { kind := 10, text := l.take i }, size := i + 2 }
  | none => { bad := 0, err := 14 }
def charsP (l : List UInt8) : Pc := charsOf (l.drop 1) (quoteAt (l.drop 1))

theorem drop_byte (l : List UInt8) (k : Nat) (h : k < l.length) : ∃ c, l.drop k = c :: l.drop (k + 1) ∧ (c.toNat : Int) = byteZ l k := by
  refine ⟨l[k], List.drop_eq_getElem_cons h, ?_⟩
  unfold byteZ
  rw [List.getD_eq_getElem?_getD, List.getElem?_eq_getElem h]
  rfl
theorem quoteAt_go (l : List UInt8) (k : Nat) (h : k < l.length) (h1 : byteZ l k ≠ 34) (h2 : 32 ≤ byteZ l k) (h3 : byteZ l k ≤ 126)
    (hq : quoteAt l = (quoteAt (l.drop k)).map (· + k)) : quoteAt l = (quoteAt (l.drop (k + 1))).map (· + (k + 1)) := by
  obtain ⟨c, hc, hb⟩ := drop_byte l k h
  rw [hq, hc, quoteAt, if_neg (by omega), if_neg (by omega), Option.map_map]
  congr 1
  funext x
  simp only [Function.comp]
  omega
theorem quoteAt_yes (l : List UInt8) (k : Nat) (h : k < l.length) (h1 : byteZ l k = 34)
    (hq : quoteAt l = (quoteAt (l.drop k)).map (· + k)) : quoteAt l = some k := by
  obtain ⟨c, hc, hb⟩ := drop_byte l k h
  rw [hq, hc, quoteAt, if_pos (by omega)]
  simp
theorem quoteAt_no (l : List UInt8) (k : Nat) (h : k < l.length) (h1 : byteZ l k < 32 ∨ 126 < byteZ l k)
    (hq : quoteAt l = (quoteAt (l.drop k)).map (· + k)) : quoteAt l = none := by
  obtain ⟨c, hc, hb⟩ := drop_byte l k h
  rw [hq, hc, quoteAt, if_neg (by omega), if_pos (by omega)]
  simp
theorem quoteAt_end (l : List UInt8) (k : Nat) (h : l.length ≤ k)
    (hq : quoteAt l = (quoteAt (l.drop k)).map (· + k)) : quoteAt l = none := by
  rw [hq, List.drop_eq_nil_of_le h]
  rfl

theorem bcellB {B : Nat} {W w1 : World} (hb : Below B W w1) : (∀ b o, b < B → w1.cell? ⟨b, o, none⟩ = W.cell? ⟨b, o, none⟩) ∧ (∀ b o, b < B → w1.frozen? ⟨b, o, none⟩ = W.frozen? ⟨b, o, none⟩) :=
  ⟨fun b o h => hb.cell (p := ⟨b, o, none⟩) h, fun b o h => hb.frozen (p := ⟨b, o, none⟩) h⟩
theorem iterBelow (W : World) (I : ByteArray) (k : Nat) : Below W.heap.size W (W.iter I k) := (Below.refl _ _).alloc (Nat.le_refl _) _
theorem iterSize (W : World) (I : ByteArray) (k : Nat) : (W.iter I k).heap.size = W.heap.size + 1 := by simp [World.iter]

set_option maxRecDepth 100000 in
set_option maxHeartbeats 2000000 in
theorem readChars_any (s : ByteArray) (hs : s.size ≤ 65536) (h1 : 1 ≤ s.size) (w : World) :
    Calls Tryz.prog 60 #[.string s] w fun e w' => e = .returned (pieceV (charsP s.data.toList)) ∧ Below w.heap.size w w' := by
  have hx : (s.extract 1 s.size).data.toList = s.data.toList.drop 1 := by
    rw [extract_list, List.take_of_length_le (by rw [List.length_drop, listLen]; omega)]
  have HP := Lib.hid (charsP.eq_1 s.data.toList)
  rw [← hx] at HP
  have hIs : (s.extract 1 s.size).size ≤ 65535 := by simp; omega
  generalize charsP s.data.toList = P at *
  go_enter Tryz.func60, Tryz.ntmps60
  go_wp2
  generalize s.extract 1 s.size = I at *
  clear hx
  have hZs : (w.alloc zeroPiece).heap.size = w.heap.size + 1 := by simp
  go_loopw [] (fun wr => ∃ k : Nat, k ≤ I.size ∧ wr = (w.alloc zeroPiece).iter I k ∧ Hid (quoteAt I.data.toList = (quoteAt (I.data.toList.drop k)).map (· + k))) (fun wr => I.size - wr.iterPos (w.alloc zeroPiece).heap.size)
  case atStart => exact ⟨0, Nat.zero_le _, rfl, by show _ = _; simp⟩
  case round =>
    obtain ⟨k, hk, rfl, HQ⟩ := hrel
    by_cases hlt : k < I.size
    · have hlt' : k < I.data.toList.length := by rw [listLen]; exact hlt
      have HB := Lib.hid (byteZ_at I k hlt)
      have hlo := byteZ_lo I.data.toList k
      have hhi := byteZ_hi I.data.toList k
      by_cases hasc : byteZ I.data.toList k < 128
      · have hnx := fun ty => run_next_ascii (P := Tryz.prog) (w.alloc zeroPiece) I k ty hlt (by have := HB.out; omega)
        simp only [hZs, HB.out] at hnx
        by_cases h34 : byteZ I.data.toList k = 34
        · simp only [h34] at hnx
          have HY := Lib.hid (quoteAt_yes I.data.toList k hlt' h34 HQ.out)
          clear HQ h34 hasc hlo hhi HB
          go_wp2_with fail
          refine (clone_any _ _ (by simp; omega)).mono ?_
          rintro e w1 ⟨rfl, hb⟩
          have hB : Below (w.heap.size + 1) (w.alloc zeroPiece) w1 := ((iterBelow (w.alloc zeroPiece) I (k + 1)).mono (by simp)).trans (hb.mono (by rw [iterSize]; simp))
          obtain ⟨hc, hf⟩ := bcellB hB
          unfold zeroPiece at hc hf
          rw [extract_bs, List.drop_zero, Nat.sub_zero]
          go_wp2
          refine bodyPost_ret (v := pieceV { tok := { kind := 10, text := I.data.toList.take k }, size := k + 2 }) ?_ rfl ⟨by rw [HP.out, HY.out]; rfl, ?_⟩
          · simp [results, Tryz.results60, go_sem, hc]
            rfl
          · have h1 : Below w.heap.size w w1 := ((Below.refl _ _).alloc (Nat.le_refl _) _).trans (hB.mono (by omega))
            iterate 10 refine Below.setCell ?_ (by simp) _
            exact h1
        · by_cases hok : 32 ≤ byteZ I.data.toList k ∧ byteZ I.data.toList k ≤ 126
          · obtain ⟨ho1, ho2⟩ := hok
            have HQ2 := Lib.hid (quoteAt_go I.data.toList k hlt' h34 ho1 ho2 HQ.out)
            have h34b : (byteZ I.data.toList k == 34) = false := by simpa using h34
            clear HQ h34 HB hasc hlo hhi
            go_wp2
            go_roundw
            case rel => exact ⟨k + 1, by omega, rfl, HQ2⟩
            case measure =>
              rw [World.iterPos_iter, World.iterPos_iter]
              omega
          · have hbad : byteZ I.data.toList k < 32 ∨ 126 < byteZ I.data.toList k := by omega
            have HY := Lib.hid (quoteAt_no I.data.toList k hlt' hbad HQ.out)
            have h34b : (byteZ I.data.toList k == 34) = false := by simpa using h34
            clear HQ h34 HB hok
            rcases hbad with hb1 | hb1
            · go_wp2_with fail
              refine (fault_any 0 14 _).mono ?_
              rintro e w1 ⟨rfl, hb⟩
              have hB : Below (w.heap.size + 1) (w.alloc zeroPiece) w1 := ((iterBelow (w.alloc zeroPiece) I (k + 1)).mono (by simp)).trans (hb.mono (by rw [iterSize]; simp))
              obtain ⟨hc, hf⟩ := bcellB hB
              unfold zeroPiece at hc hf
              unfold pieceV
              go_wp2
              refine bodyPost_ret (v := pieceV { bad := 0, err := 14 }) ?_ rfl ⟨by rw [HP.out, HY.out]; rfl, ?_⟩
              · simp [results, Tryz.results60, go_sem, hc]
                rfl
              · have h1 : Below w.heap.size w w1 := ((Below.refl _ _).alloc (Nat.le_refl _) _).trans (hB.mono (by omega))
                iterate 10 refine Below.setCell ?_ (by simp) _
                exact h1
            · go_wp2_with fail
              refine (fault_any 0 14 _).mono ?_
              rintro e w1 ⟨rfl, hb⟩
              have hB : Below (w.heap.size + 1) (w.alloc zeroPiece) w1 := ((iterBelow (w.alloc zeroPiece) I (k + 1)).mono (by simp)).trans (hb.mono (by rw [iterSize]; simp))
              obtain ⟨hc, hf⟩ := bcellB hB
              unfold zeroPiece at hc hf
              unfold pieceV
              go_wp2
              refine bodyPost_ret (v := pieceV { bad := 0, err := 14 }) ?_ rfl ⟨by rw [HP.out, HY.out]; rfl, ?_⟩
              · simp [results, Tryz.results60, go_sem, hc]
                rfl
              · have h1 : Below w.heap.size w w1 := ((Below.refl _ _).alloc (Nat.le_refl _) _).trans (hB.mono (by omega))
                iterate 10 refine Below.setCell ?_ (by simp) _
                exact h1
      · have hbad : byteZ I.data.toList k < 32 ∨ 126 < byteZ I.data.toList k := by omega
        have HY := Lib.hid (quoteAt_no I.data.toList k hlt' hbad HQ.out)
        have hdec := decode_high I k hlt (by have := HB.out; omega)
        have hdl := decode_le I k
        have hnx := fun ty => run_next_any (P := Tryz.prog) (w.alloc zeroPiece) I k ty hlt
        simp only [hZs] at hnx
        generalize Utf8.decode I k = d at *
        obtain ⟨r, sz⟩ := d
        simp only at hnx hdec hdl
        have hr1 : (126 : Int) < (r : Int) := by omega
        have hr2 : (32 : Int) ≤ (r : Int) := by omega
        have h34b : ((r : Int) == 34) = false := by
          rw [beq_eq_false_iff_ne]
          omega
        clear HQ HB hasc hlo hhi hbad hdec
        go_wp2_with fail
        refine (fault_any 0 14 _).mono ?_
        rintro e w1 ⟨rfl, hb⟩
        have hB : Below (w.heap.size + 1) (w.alloc zeroPiece) w1 := ((iterBelow (w.alloc zeroPiece) I (k + sz)).mono (by simp)).trans (hb.mono (by rw [iterSize]; simp))
        obtain ⟨hc, hf⟩ := bcellB hB
        unfold zeroPiece at hc hf
        unfold pieceV
        go_wp2
        refine bodyPost_ret (v := pieceV { bad := 0, err := 14 }) ?_ rfl ⟨by rw [HP.out, HY.out]; rfl, ?_⟩
        · simp [results, Tryz.results60, go_sem, hc]
          rfl
        · have h1 : Below w.heap.size w w1 := ((Below.refl _ _).alloc (Nat.le_refl _) _).trans (hB.mono (by omega))
          iterate 10 refine Below.setCell ?_ (by simp) _
          exact h1
    · have HY := Lib.hid (quoteAt_end I.data.toList k (by rw [listLen]; omega) HQ.out)
      have hnx := fun ty => run_next_end (P := Tryz.prog) (w.alloc zeroPiece) I k ty hlt
      simp only [hZs] at hnx
      clear HQ
      go_wp2_with fail
      refine (fault_any 0 14 _).mono ?_
      rintro e w1 ⟨rfl, hb⟩
      have hB : Below (w.heap.size + 1) (w.alloc zeroPiece) w1 := ((iterBelow (w.alloc zeroPiece) I k).mono (by simp)).trans (hb.mono (by rw [iterSize]; simp))
      obtain ⟨hc, hf⟩ := bcellB hB
      unfold zeroPiece at hc hf
      unfold pieceV
      go_wp2
      refine bodyPost_ret (v := pieceV { bad := 0, err := 14 }) ?_ rfl ⟨by rw [HP.out, HY.out]; rfl, ?_⟩
      · simp [results, Tryz.results60, go_sem, hc]
        rfl
      · have h1 : Below w.heap.size w w1 := ((Below.refl _ _).alloc (Nat.le_refl _) _).trans (hB.mono (by omega))
        iterate 10 refine Below.setCell ?_ (by simp) _
        exact h1
end Go.Proofs.YtodenbimeojgdaaGreatDoor

/-
  The contract of lex.readValues: what it answers for every text. Conditions: a text of at most 65536 bytes.
-/
namespace Go.Proofs.YtodenbimeojgdaaGreatDoor
open Go.RowKit

def numsText (nums : List Int) : List UInt8 := nums.map fun n => UInt8.ofNat n.toNat
theorem bs_nums (nums : List Int) : strOfNums nums = bs (numsText nums) := rfl

/-- values with points between, from a place on -/
def moreVals (l : List UInt8) (base : Int) : Nat → Nat → List Int → Option (List Int × Nat)
  | 0, _, _ => none
  | f + 1, k, nums =>
    if standsB l k 46 = true then
      match valueZ l (k + 1) base with
      | none => none
      | some (v, k2) => moreVals l base f k2 (nums ++ [v])
    else some (nums, k)

def wrongP : Pc := { bad := 0, err := 15 }
def bytesOf : Option (List Int × Nat) → Pc
  | none => wrongP
  | some (nums, k) => { tok := { kind := 11, text := numsText nums }, size := k }
def rangeOf (a : Int) : Option (Int × Nat) → Pc
  | none => wrongP
  | some (b, k) => if b < a then wrongP else { tok := { kind := 12, lo := a, hi := b }, size := k }
def valuesOf (l : List UInt8) (base : Int) : Option (Int × Nat) → Pc
  | none => wrongP
  | some (a, k) => if standsB l k 45 = true then rangeOf a (valueZ l (k + 1) base) else bytesOf (moreVals l base (l.length + 1) k [a])
def valuesP (l : List UInt8) : Pc := valuesOf l (baseZ l) (valueZ l 2 (baseZ l))

theorem moreVals_end {l : List UInt8} {base : Int} {f k : Nat} {nums : List Int} (hf : l.length < f + k) (hk : k ≤ l.length) (hs : standsB l k 46 = false) : moreVals l base f k nums = some (nums, k) := by
  cases f with
  | zero => omega
  | succ f => rw [moreVals, if_neg (by simp [hs])]
theorem moreVals_none {l : List UInt8} {base : Int} {f k : Nat} {nums : List Int} (hs : standsB l k 46 = true) (hv : valueZ l (k + 1) base = none) : moreVals l base f k nums = none := by
  cases f with
  | zero => rfl
  | succ f => rw [moreVals, if_pos hs, hv]
theorem moreVals_some {l : List UInt8} {base : Int} {f k k2 : Nat} {nums : List Int} {v : Int} (hs : standsB l k 46 = true) (hv : valueZ l (k + 1) base = some (v, k2)) :
    moreVals l base (f + 1) k nums = moreVals l base f k2 (nums ++ [v]) := by
  rw [moreVals, if_pos hs, hv]

theorem numberZ_bd' (base : Int) (hb0 : 0 ≤ base) (hb1 : base ≤ 16) (l : List UInt8) (n : Nat) (h : n ≤ l.length) : 0 ≤ numberZ base (l.take n) := (numberZ_bd base hb0 hb1 l n h).1

theorem valueZ_bd {l : List UInt8} {at_ : Nat} {base : Int} (hb0 : 0 ≤ base) (hb1 : base ≤ 16) {v : Int} {k : Nat} (h : valueZ l at_ base = some (v, k)) : 0 ≤ v ∧ v ≤ 255 ∧ at_ < k ∧ k ≤ l.length := by
  unfold valueZ at h
  have hle := spanZ_le (digitBelow base) (l.drop at_)
  rw [List.length_drop] at hle
  have hn := numberZ_bd' base hb0 hb1 (l.drop at_) (spanZ (digitBelow base) (l.drop at_)) (by rw [List.length_drop]; exact hle)
  split at h
  · cases h
  · split at h
    · cases h
    · split at h
      · cases h
      · injection h with h
        injection h with h1 h2
        omega
theorem standsB_lt {l : List UInt8} {k : Nat} {b : Int} (h : standsB l k b = true) : k < l.length := by
  unfold standsB at h
  simp only [Bool.and_eq_true, decide_eq_true_eq] at h
  exact h.1
theorem ownsRow_kept {B : Nat} {e : TypeId} {k : Nat} {v : Value} {n : Nat} {xs : List Value} {w w' : World} (h : w.ownsRow B e k v n xs) (hb : Below w.heap.size w w') : w'.ownsRow B e k v n xs :=
  h.kept (row := none) ⟨hb.os, hb.tape, hb.output, hb.size, fun i hi _ => hb.block i hi⟩ (by cases hv : v.ownBlock <;> simp)

theorem own_form {w : World} {base size n : Nat} {e : TypeId} {v : Value} {xs : List Value} (h : w.ownsRow base e size v n xs) (hn : 0 < n) : ∃ g cap, v = .slice (some ⟨g, 0, none⟩) n cap := by
  rcases h.2 with ⟨_, h0⟩ | ⟨g, cap, _, hv, _⟩
  · omega
  · exact ⟨g, cap, hv⟩

/-- a block that is known whole -/
def Blk (w : World) (g : Nat) (t : TypeId) (cs : Array Value) : Prop := w.heap[g]? = some (.cells cs t (0, 0))
theorem Blk.lt {w : World} {g : Nat} {t : TypeId} {cs : Array Value} (h : Blk w g t cs) : g < w.heap.size := by
  rcases Nat.lt_or_ge g w.heap.size with hlt | hge
  · exact hlt
  · unfold Blk at h; rw [Array.getElem?_eq_none hge] at h; cases h
theorem Blk.cell {w : World} {g : Nat} {t : TypeId} {cs : Array Value} (h : Blk w g t cs) (i : Nat) : w.cell? ⟨g, i, none⟩ = cs[i]? := cell_of_row w g i cs t (0, 0) h
theorem Blk.frozen {w : World} {g : Nat} {t : TypeId} {cs : Array Value} (h : Blk w g t cs) (i : Nat) : w.frozen? ⟨g, i, none⟩ = false := by
  unfold Blk at h
  simp [World.frozen?, h]
theorem Blk.new (w : World) (t : TypeId) (cs : Array Value) : Blk (w.alloc (.cells cs t)) w.heap.size t cs := heap_alloc_new w _
theorem Blk.alloc {w : World} {g : Nat} {t : TypeId} {cs : Array Value} (h : Blk w g t cs) (o : Obj) : Blk (w.alloc o) g t cs := (Below.heap_alloc w o g h.lt).trans h
theorem Blk.below {B : Nat} {w w' : World} {g : Nat} {t : TypeId} {cs : Array Value} (h : Blk w g t cs) (hb : Below B w w') (hg : g < B) : Blk w' g t cs := (hb.block g hg).trans h

def zeroCells : Array Value := #[.int .u8 0, .int .i64 0, .string ⟨#[]⟩, .int .i64 0, .int .i64 0, .int .u8 0, .int .u8 0, .int .i64 0, .int .i64 0, .int .i64 0]
def wrongCells : Array Value := #[.int .u8 0, .int .i64 0, .string ⟨#[]⟩, .int .i64 0, .int .i64 0, .int .u8 0, .int .u8 0, .int .i64 0, .int .i64 0, .int .i64 15]

theorem Tryz.infoU8 : (Tryz.prog.info? 5).map (fun i => (i.zero, i.size, i.bytes)) = some (some (.int .u8 0), 1, 1) := by kernel_rfl

set_option maxRecDepth 100000 in
set_option maxHeartbeats 2000000 in
theorem readValues_any (s : ByteArray) (hs : s.size ≤ 65536) (w : World) :
    Calls Tryz.prog 61 #[.string s] w fun e w' => e = .returned (pieceV (valuesP s.data.toList)) ∧ Below w.heap.size w w' := by
  have hbz := baseZ_bd s.data.toList
  have HP := Lib.hid (valuesP.eq_1 s.data.toList)
  generalize valuesP s.data.toList = P at *
  have HBASE := Lib.hid (fun W => baseOf_any s W)
  have HRV := Lib.hid (fun (at_ : Nat) W => readValue_any s at_ (baseZ s.data.toList) hs hbz.1 hbz.2 W)
  have HST := Lib.hid (fun (at_ : Nat) (b : Int) W => stands_any s at_ b W)
  have HLEN := Lib.hid (listLen s)
  have HVB := Lib.hid (fun (at_ : Nat) (v : Int) (k : Nat) (h : valueZ s.data.toList at_ (baseZ s.data.toList) = some (v, k)) => valueZ_bd hbz.1 hbz.2 h)
  generalize baseZ s.data.toList = base at *
  go_enter Tryz.func61, Tryz.ntmps61
  go_wp2_with fail
  refine (fault_any 0 15 _).mono ?_
  rintro e w1 ⟨rfl, hb⟩
  have hR1 : Blk w1 w.heap.size 142 zeroCells := (Blk.new w 142 zeroCells).below hb (by simp)
  have hB1 : Below w.heap.size w w1 := ((Below.refl _ _).alloc (Nat.le_refl _) _).trans (hb.mono (by simp))
  clear hb
  have hz := hR1.lt
  unfold pieceV
  go_wp2_with (go_at_call 104; refine (HBASE.out _).mono ?_; rintro e w' ⟨rfl, rfl⟩)
  refine (HRV.out 2 _).mono ?_
  rintro e w2 ⟨rfl, hb2⟩
  have hR2 : Blk w2 w.heap.size 142 zeroCells := (hR1.alloc _).below hb2 (by simp; omega)
  have hG2 : Blk w2 w1.heap.size 142 wrongCells := (Blk.new w1 142 wrongCells).below hb2 (by simp)
  have hB2 : Below w.heap.size w w2 := (hB1.alloc hB1.size _).trans (hb2.mono (by simp; omega))
  clear hb2 hB1 hR1
  generalize w1.heap.size = G at *
  have hne : G ≠ w.heap.size := by omega
  have hcR := hR2.cell
  have hfR := hR2.frozen
  have hcG := hG2.cell
  unfold zeroCells at hcR
  unfold wrongCells at hcG
  cases hv : valueZ s.data.toList 2 base with
  | none =>
    have HV := Lib.hid hv
    clear hv
    unfold valueV
    go_wp2
    refine bodyPost_ret (v := pieceV wrongP) ?_ rfl ⟨by rw [HP.out, HV.out]; rfl, ?_⟩
    · simp [results, Tryz.results61, go_sem, hcR]
      rfl
    · iterate 10 refine Below.setCell ?_ (by simp) _
      exact hB2
  | some ak =>
    obtain ⟨a, k⟩ := ak
    have hvb := HVB.out 2 a k hv
    rw [HLEN.out] at hvb
    have HV := Lib.hid hv
    clear hv
    unfold valueV
    have HST1 := Lib.hid (fun W => HST.out k 45 W)
    cases hst : standsB s.data.toList k 45 with
    | true =>
      rw [hst] at HST1
      have HS := Lib.hid hst
      clear hst
      go_wp2_with (go_at_call 103; refine (HST1.out _).mono ?_; rintro e w' ⟨rfl, rfl⟩)
      rw [show ((k : Int) + 1) = ((k + 1 : Nat) : Int) from by omega]
      refine (HRV.out (k + 1) _).mono ?_
      rintro e w3 ⟨rfl, hb3⟩
      clear hcR hfR hcG
      have hR3 := hR2.below hb3 hR2.lt
      have hG3 := hG2.below hb3 hG2.lt
      have hB3 := hB2.trans (hb3.mono hB2.size)
      clear hR2 hG2 hB2 hb3
      have hcR := hR3.cell
      have hfR := hR3.frozen
      have hcG := hG3.cell
      unfold zeroCells at hcR
      unfold wrongCells at hcG
      cases hv2 : valueZ s.data.toList (k + 1) base with
      | none =>
        have HV2 := Lib.hid hv2
        clear hv2
        unfold valueV
        go_wp2
        refine bodyPost_ret (v := pieceV wrongP) ?_ rfl ⟨by rw [HP.out, HV.out, valuesOf, if_pos HS.out, HV2.out]; rfl, ?_⟩
        · simp [results, Tryz.results61, go_sem, hcR]
          rfl
        · iterate 10 refine Below.setCell ?_ (by simp) _
          exact hB3
      | some bk =>
        obtain ⟨b, k2⟩ := bk
        have hvb2 := HVB.out (k + 1) b k2 hv2
        rw [HLEN.out] at hvb2
        have HV2 := Lib.hid hv2
        clear hv2
        unfold valueV
        by_cases hba : b < a
        · go_wp2
          refine bodyPost_ret (v := pieceV wrongP) ?_ rfl ⟨by rw [HP.out, HV.out, valuesOf, if_pos HS.out, HV2.out, rangeOf, if_pos hba], ?_⟩
          · simp [results, Tryz.results61, go_sem, hcR]
            rfl
          · iterate 10 refine Below.setCell ?_ (by simp) _
            exact hB3
        · have hba' : a ≤ b := by omega
          clear hba
          go_wp2
          refine bodyPost_ret (v := pieceV { tok := { kind := 12, lo := a, hi := b }, size := k2 }) ?_ rfl ⟨by rw [HP.out, HV.out, valuesOf, if_pos HS.out, HV2.out, rangeOf, if_neg (Int.not_lt.2 hba')], ?_⟩
          · simp [results, Tryz.results61, go_sem, hcR]
            rfl
          · iterate 10 refine Below.setCell ?_ (by simp) _
            exact hB3
    | false =>
      rw [hst] at HST1
      have HS := Lib.hid hst
      clear hst
      go_wp2_with (go_at_call 103; refine (HST1.out _).mono ?_; rintro e w' ⟨rfl, rfl⟩)
      have hown0 : (w2.alloc (.cells #[.int .u8 a] 5)).ownsRow w2.heap.size 5 1 (.slice (some ⟨w2.heap.size, 0, none⟩) 1 1) 1 [.int .u8 a] :=
        World.ownsRow_lit w2 #[.int .u8 a] 1 (Nat.le_refl _) (by decide) rfl
      have hBelow0 : Below w2.heap.size w2 (w2.alloc (.cells #[.int .u8 a] 5)) := (Below.refl _ _).alloc (Nat.le_refl _) _
      have HR : Hid (P = bytesOf (moreVals s.data.toList base (s.data.toList.length + 1) k [a])) := by
        show P = _
        rw [HP.out, HV.out, valuesOf, if_neg (by rw [HS.out]; simp)]
      clear hcR hfR hcG HP HST1 HS HV
      generalize w2.alloc (.cells #[.int .u8 a] 5) = W0 at *
      go_loopw [6, 11] (fun sz v wr => ∃ (k f : Nat) (nums : List Int), k ≤ s.size ∧ sz = .int .i64 k ∧ wr.ownsRow w2.heap.size 5 1 v nums.length (nums.map (Value.int .u8)) ∧ 1 ≤ nums.length ∧ nums.length ≤ k ∧
          Below w2.heap.size w2 wr ∧ s.size < f + k ∧ Hid (P = bytesOf (moreVals s.data.toList base f k nums))) (fun sz _ _ => s.size - (intOf sz).toNat)
      case atStart => exact ⟨k, s.data.toList.length + 1, [a], by omega, rfl, hown0, by simp, by simp; omega, hBelow0, by rw [HLEN.out]; omega, HR⟩
      case round =>
        clear HR hown0 hBelow0
        obtain ⟨k, f, nums, hk, rfl, hown, hn1, hnk, hbel, hfk, HR⟩ := hrel
        have HST1 := Lib.hid (fun W => HST.out k 46 W)
        cases hst : standsB s.data.toList k 46 with
        | false =>
          rw [hst] at HST1
          have HM := Lib.hid (moreVals_end (base := base) (nums := nums) (by rw [HLEN.out]; exact hfk) (by rw [HLEN.out]; exact hk) hst)
          clear hst
          obtain ⟨g, cap, rfl⟩ := own_form hown (by omega)
          have hcv := run_convert_bytes_arg (P := Tryz.prog) wr 82 5 Tryz.underlying82 Tryz.underlying5 g 0 nums.length cap nums rfl (fun i hi => by
            rw [Nat.zero_add, hown.cellAt i (by omega)]
            simp [List.getD, List.getElem?_eq_getElem hi]) 9 Tryz.underlying9
          rw [bs_nums] at hcv
          have hR4 := hR2.below hbel hR2.lt
          have hcR := hR4.cell
          have hfR := hR4.frozen
          unfold zeroCells at hcR
          have HOWN := Lib.hid hown
          clear hown
          go_wp2_with (go_at_call 103; refine (HST1.out _).mono ?_; rintro e w' ⟨rfl, rfl⟩)
          refine bodyPost_ret (v := pieceV { tok := { kind := 11, text := numsText nums }, size := k }) ?_ rfl ⟨by rw [HR.out, HM.out]; rfl, ?_⟩
          · simp [results, Tryz.results61, go_sem, hcR]
            rfl
          · iterate 10 refine Below.setCell ?_ (by simp) _
            exact hB2.trans (hbel.mono hB2.size)
        | true =>
          rw [hst] at HST1
          have hklt := standsB_lt hst
          rw [HLEN.out] at hklt
          have HS := Lib.hid hst
          clear hst
          go_wp2_with (go_at_call 103; refine (HST1.out _).mono ?_; rintro e w' ⟨rfl, rfl⟩)
          rw [show ((k : Int) + 1) = ((k + 1 : Nat) : Int) from by omega]
          refine (HRV.out (k + 1) _).mono ?_
          rintro e w4 ⟨rfl, hb4⟩
          have hbel4 : Below w2.heap.size w2 w4 := hbel.trans (hb4.mono hbel.size)
          have hown4 := ownsRow_kept hown hb4
          clear hown hb4 hbel
          have hR4 := hR2.below hbel4 hR2.lt
          have hG4 := hG2.below hbel4 hG2.lt
          cases hv2 : valueZ s.data.toList (k + 1) base with
          | none =>
            have HM := Lib.hid (moreVals_none (f := f) (nums := nums) HS.out hv2)
            clear hv2
            have hcR := hR4.cell
            have hfR := hR4.frozen
            have hcG := hG4.cell
            unfold zeroCells at hcR
            unfold wrongCells at hcG
            unfold valueV
            go_wp2
            refine bodyPost_ret (v := pieceV wrongP) ?_ rfl ⟨by rw [HR.out, HM.out]; rfl, ?_⟩
            · simp [results, Tryz.results61, go_sem, hcR]
              rfl
            · iterate 10 refine Below.setCell ?_ (by simp) _
              exact hB2.trans (hbel4.mono hB2.size)
          | some bk =>
            obtain ⟨b, k2⟩ := bk
            have hvb2 := HVB.out (k + 1) b k2 hv2
            rw [HLEN.out] at hvb2
            obtain ⟨f, rfl⟩ : ∃ f', f = f' + 1 := ⟨f - 1, by omega⟩
            have HM := Lib.hid (moreVals_some (f := f) (nums := nums) HS.out hv2)
            clear hv2
            unfold valueV
            obtain ⟨i0, hi, hz0, hz1, hz2⟩ := info_parts Tryz.infoU8
            go_wp2_with (at_builtin; refine wpList_append_own _ rfl _ _ 82 rfl w2.heap.size 5 i0 (.int .u8 0) 1 1 Tryz.underlying82 hi hz0 hz1 hz2 rfl (by decide) _ _ _ rfl (hown4.alloc _) ⟨w4.heap.size, 0, none⟩ 1 1 [.int .u8 b] rfl rfl ?c1 ?c2 ?c3 ?c4 ?c5 ?_)
            case c1 =>
              intro j u hj
              match j, hj with
              | 0, hj => simp at hj; subst hj; simp [Addr.add]
            case c2 => intro u hu; simp at hu; subst hu; rfl
            case c3 => unfold maxLen; omega
            case c4 => omega
            case c5 => have := hbel4.size; simp; omega
            intro v' w5 hown' hgrow _
            have hbel5 : Below w2.heap.size w2 w5 := (hbel4.alloc hbel4.size _).grown hgrow (by simp; have := hbel4.size; omega) (fun g hg => (hown4.lt g hg).1)
            clear hgrow hown4 hR4 hG4
            go_wp2
            go_roundw
            case rel => exact ⟨k2, f, nums ++ [b], by omega, rfl, by simpa using hown', by simp, by simp; omega, hbel5, by omega, by show P = _; rw [HR.out, HM.out]⟩
            case measure => simp [intOf]; omega
end Go.Proofs.YtodenbimeojgdaaGreatDoor

/-
  The contracts of the closures of lex/start.go's table. Conditions: a text of 1 to 65536 bytes; each captured variable's cell as it was laid.
-/
namespace Go.Proofs.YtodenbimeojgdaaGreatDoor
open Go.RowKit

def pieceCells (p : Pc) : Array Value := #[.int .u8 p.tok.kind, .int .i64 p.tok.place, .string (bs p.tok.text), .int .i64 p.tok.mn, .int .i64 p.tok.mx, .int .u8 p.tok.lo, .int .u8 p.tok.hi, .int .i64 p.size, .int .i64 p.bad, .int .i64 p.err]

set_option maxHeartbeats 400000 in
theorem textIs_any (s t : ByteArray) (b : Nat) (w : World) (hc : w.cell? ⟨b, 0, none⟩ = some (.string t)) :
    Calls Tryz.prog 96 #[.string s, .pointer (some ⟨b, 0, none⟩)] w fun e w' => e = .returned (.bool (Lib.hasPrefix s.data.toList t.data.toList)) ∧ ∃ m, w' = w.drewN m := by
  go_enter Tryz.func96, Tryz.ntmps96
  go_wp2_with (go_at_call 43; refine (Tryz.strings_HasPrefix s t _).mono ?_; rintro e w' ⟨rfl, rfl⟩)
  go_ret
  exact ⟨rfl, 0, rfl⟩

set_option maxHeartbeats 400000 in
theorem byteIs_any (s : ByteArray) (f : FuncId) (p : Int → Bool) (b : Nat) (w : World) (h1 : 1 ≤ s.size) (hc : w.cell? ⟨b, 0, none⟩ = some (.func (.func f) #[] #[]))
    (eg : ∀ (args : Array Value) (w : World), (callFunc f args).run Tryz.prog w = .ok (.enter f args) w)
    (hp : ∀ (n : Int) (w : World), 0 ≤ n → n ≤ 255 → Calls Tryz.prog f #[.int .u8 n] w fun e w' => e = .returned (.bool (p n)) ∧ w = w') :
    Calls Tryz.prog 94 #[.string s, .pointer (some ⟨b, 0, none⟩)] w fun e w' => e = .returned (.bool (p (byteZ s.data.toList 0))) ∧ ∃ m, w' = w.drewN m := by
  have h0 : 0 < s.size := by omega
  have h0' : (0 : Int) < s.size := by omega
  have hb := byteZ_at s 0 h0
  have hlo := byteZ_lo s.data.toList 0
  have hhi := byteZ_hi s.data.toList 0
  have HP := Lib.hid (fun W => hp _ W hlo hhi)
  rw [← hb] at HP
  have HB := Lib.hid hb
  clear hb hp hlo hhi
  go_enter Tryz.func94, Tryz.ntmps94
  go_wp2
  go_quiet ((go_at_fn f; exact quiet_left (HP.out _)))
  go_wp2
  go_ret
  exact ⟨ret_bool (by rw [HB.out]), _, rfl⟩

set_option maxHeartbeats 400000 in
theorem signIs_any (s : ByteArray) (p : Pc) (b : Nat) (w : World) (hb : Blk w b 142 (pieceCells p)) :
    Calls Tryz.prog 99 #[.string s, .pointer (some ⟨b, 0, none⟩)] w fun e w' => e = .returned (pieceV p) ∧ Below w.heap.size w w' := by
  have hc := hb.cell
  have hlt := hb.lt
  unfold pieceCells at hc
  go_enter Tryz.func99, Tryz.ntmps99
  go_wp2
  exact bodyPost_ret (v := pieceV p) (by simp [results, Tryz.results99, go_sem]; rfl) rfl ⟨rfl, (Below.refl _ _).alloc (Nat.le_refl _) _⟩

set_option maxHeartbeats 400000 in
theorem refuseIs_any (s : ByteArray) (er : Nat) (b : Nat) (w : World) (hb : Blk w b 31 #[.int .i64 er]) :
    Calls Tryz.prog 106 #[.string s, .pointer (some ⟨b, 0, none⟩)] w fun e w' => e = .returned (pieceV { bad := 0, err := er }) ∧ Below w.heap.size w w' := by
  have hc := hb.cell
  have hlt := hb.lt
  go_enter Tryz.func106, Tryz.ntmps106
  go_wp2_with fail
  refine (fault_any 0 er _).mono ?_
  rintro e w1 ⟨rfl, hb1⟩
  have hR1 : Blk w1 w.heap.size 142 zeroCells := (Blk.new w 142 zeroCells).below hb1 (by simp)
  have hB1 : Below w.heap.size w w1 := ((Below.refl _ _).alloc (Nat.le_refl _) _).trans (hb1.mono (by simp))
  clear hb1
  have hcR := hR1.cell
  have hfR := hR1.frozen
  unfold zeroCells at hcR
  unfold pieceV
  go_wp2
  refine bodyPost_ret (v := pieceV { bad := 0, err := er }) ?_ rfl ⟨rfl, ?_⟩
  · simp [results, Tryz.results106, go_sem, hcR]
    rfl
  · iterate 10 refine Below.setCell ?_ (by simp) _
    exact hB1

theorem run_store_func (P : Program) (w : World) (a : Addr) (m : Mode) (fn : Fn) (x y : Array Value) : (store a (.func fn x y) m).run P w = stored P w a (.func fn x y) m := run_store P w a _ m rfl

set_option maxHeartbeats 400000 in
theorem text_any (t : ByteArray) (w : World) :
    Calls Tryz.prog 53 #[.string t] w fun e w' => e = .returned (.func (.func 96) #[] #[.pointer (some ⟨w.heap.size, 0, none⟩)]) ∧ w' = w.alloc (.cells #[.string t] 9) := by
  go_enter Tryz.func53, Tryz.ntmps53
  go_wp2
  go_ret
  exact ⟨rfl, rfl⟩
set_option maxHeartbeats 400000 in
theorem byteThat_any (f : FuncId) (w : World) :
    Calls Tryz.prog 50 #[.func (.func f) #[] #[]] w fun e w' => e = .returned (.func (.func 94) #[] #[.pointer (some ⟨w.heap.size, 0, none⟩)]) ∧ w' = w.alloc (.cells #[.func (.func f) #[] #[]] 106) := by
  go_enter Tryz.func50, Tryz.ntmps50
  go_wp2
  go_ret
  exact ⟨rfl, rfl⟩
set_option maxHeartbeats 400000 in
theorem refuse_any (er : Int) (w : World) :
    Calls Tryz.prog 62 #[.int .i64 er] w fun e w' => e = .returned (.func (.func 106) #[] #[.pointer (some ⟨w.heap.size, 0, none⟩)]) ∧ w' = w.alloc (.cells #[.int .i64 er] 31) := by
  go_enter Tryz.func62, Tryz.ntmps62
  go_wp2
  go_ret
  exact ⟨rfl, rfl⟩
theorem Blk.new_at (w : World) (t : TypeId) (cs : Array Value) (g : Nat) (hg : g = w.heap.size) : Blk (w.alloc (.cells cs t)) g t cs := by subst hg; exact Blk.new _ _ _

def textV (g : Nat) : Value := .func (.func 96) #[] #[.pointer (some ⟨g, 0, none⟩)]
def byteV (g : Nat) : Value := .func (.func 94) #[] #[.pointer (some ⟨g, 0, none⟩)]
def signV (g : Nat) : Value := .func (.func 99) #[] #[.pointer (some ⟨g, 0, none⟩)]
def refuseV (g : Nat) : Value := .func (.func 106) #[] #[.pointer (some ⟨g, 0, none⟩)]
def plainV (f : Nat) : Value := .func (.func f) #[] #[]
def textO (t : List UInt8) : Obj := .cells #[.string (bs t)] 9
def byteO (f : Nat) : Obj := .cells #[plainV f] 106
def refuseO (er : Nat) : Obj := .cells #[.int .i64 er] 31
def signO (kind : Int) (t : List UInt8) : Obj := .cells (pieceCells { tok := { kind := kind }, size := t.length }) 142
def startO (a b : Value) : Obj := .cells #[a, b] 109

set_option maxHeartbeats 400000 in
theorem sign_any (t : List UInt8) (kind : Int) (N : Nat) (w : World) (hN : w.heap.size = N) :
    Calls Tryz.prog 57 #[.string (bs t), .int .u8 kind] w fun e w' => e = .returned (.agg #[textV (N + 2), signV (N + 1)]) ∧
      w' = ((w.alloc (startO (textV (N + 2)) (signV (N + 1)))).alloc (signO kind t)).alloc (textO t) := by
  have hsf := run_store_func Tryz.prog
  have HN := Lib.hid hN
  clear hN
  have hts : (bs t).size = t.length := by show (t.toArray).size = _; simp
  go_enter Tryz.func57, Tryz.ntmps57
  go_wp2_with (go_at_call 53; refine (text_any _ _).mono ?_; rintro e w' ⟨rfl, rfl⟩)
  refine bodyPost_ret (v := .agg #[textV (w.heap.size + 2), signV (w.heap.size + 1)]) ?_ rfl ⟨by rw [HN.out], by rw [← HN.out]; rfl⟩
  · simp [results, Tryz.results57, go_sem, textV, signV]

/-- the blocks that the table lays -/
def startObjs (N : Nat) : List Obj :=
  [byteO 51, textO [59], byteO 55,
   startO (textV (N + 5)) (signV (N + 4)), signO 3 [61, 47], textO [61, 47],
   startO (textV (N + 8)) (signV (N + 7)), signO 2 [61], textO [61],
   startO (textV (N + 11)) (signV (N + 10)), signO 4 [47], textO [47],
   startO (textV (N + 14)) (signV (N + 13)), signO 5 [40], textO [40],
   startO (textV (N + 17)) (signV (N + 16)), signO 6 [41], textO [41],
   startO (textV (N + 20)) (signV (N + 19)), signO 7 [91], textO [91],
   startO (textV (N + 23)) (signV (N + 22)), signO 8 [93], textO [93],
   byteO 58, textO [34], textO [37], textO [60], refuseO 16, textO [], refuseO 11,
   .cells #[byteV N, plainV 52, textV (N + 1), plainV 54, byteV (N + 2), plainV 56,
     textV (N + 5), signV (N + 4), textV (N + 8), signV (N + 7), textV (N + 11), signV (N + 10), textV (N + 14), signV (N + 13), textV (N + 17), signV (N + 16), textV (N + 20), signV (N + 19), textV (N + 23), signV (N + 22),
     byteV (N + 24), plainV 59, textV (N + 25), plainV 60, textV (N + 26), plainV 61, textV (N + 27), refuseV (N + 28), textV (N + 29), refuseV (N + 30)] 109]

def allocs (w : World) (l : List Obj) : World := l.foldl World.alloc w
theorem allocs_heap (l : List Obj) : ∀ w : World, (allocs w l).heap = w.heap ++ l.toArray := by
  induction l with
  | nil => intro w; simp [allocs]
  | cons o l ih => intro w; show (allocs (w.alloc o) l).heap = _; rw [ih]; show w.heap.push o ++ l.toArray = _; simp
theorem allocs_below (l : List Obj) : ∀ w : World, Below w.heap.size w (allocs w l) := by
  induction l with
  | nil => intro w; exact Below.refl _ _
  | cons o l ih => intro w; exact ((Below.refl _ _).alloc (Nat.le_refl _) o).trans ((ih (w.alloc o)).mono (by simp))

set_option maxRecDepth 100000 in
set_option maxHeartbeats 4000000 in
theorem starts_any (w : World) :
    Calls Tryz.prog 25 #[] w fun e w' => e = .returned (.slice (some ⟨w.heap.size + 31, 0, none⟩) 15 15) ∧ w' = allocs w (startObjs w.heap.size) := by
  go_enter Tryz.func25, Tryz.ntmps25
  go_wp2_with (first | (go_at_call 50; refine (byteThat_any _ _).mono ?_; rintro e w' ⟨rfl, rfl⟩) | (go_at_call 53; refine (text_any _ _).mono ?_; rintro e w' ⟨rfl, rfl⟩) | (go_at_call 57; refine (sign_any _ _ _ _ rfl).mono ?_; rintro e w' ⟨rfl, rfl⟩) | (go_at_call 62; refine (refuse_any _ _).mono ?_; rintro e w' ⟨rfl, rfl⟩))
  go_ret
  exact ⟨rfl, rfl⟩
end Go.Proofs.YtodenbimeojgdaaGreatDoor

/-
  The contract of lex.readPiece: the first row of the table of tokens that fits counts. Conditions: a text of 1 to 65536 bytes; the lexer's table as starts lays it.
-/
namespace Go.Proofs.YtodenbimeojgdaaGreatDoor
open Go.RowKit

abbrev Row := (List UInt8 → Bool) × (List UInt8 → Pc)
def signRow (kind : Int) (t : List UInt8) : Row := (fun l => Lib.hasPrefix l t, fun _ => { tok := { kind := kind }, size := t.length })
def nameP (l : List UInt8) : Pc := { tok := { kind := 1, text := l.take (spanZ namedZ l) }, size := spanZ namedZ l }
def table : List Row :=
  [(fun l => blankZ (byteZ l 0), fun l => { size := spanZ blankZ l }), (fun l => Lib.hasPrefix l [59], fun l => { size := l.length }), (fun l => letterZ (byteZ l 0), nameP),
   signRow 3 [61, 47], signRow 2 [61], signRow 4 [47], signRow 5 [40], signRow 6 [41], signRow 7 [91], signRow 8 [93],
   (fun l => timesZ (byteZ l 0), timesP), (fun l => Lib.hasPrefix l [34], charsP), (fun l => Lib.hasPrefix l [37], valuesP),
   (fun l => Lib.hasPrefix l [60], fun _ => { bad := 0, err := 16 }), (fun l => Lib.hasPrefix l [], fun _ => { bad := 0, err := 11 })]
def pick : List Row → List UInt8 → Pc
  | [], _ => { bad := 0, err := 11 }
  | (p, r) :: t, l => if p l = true then r l else pick t l
/-- what stands first in a text -/
def readP (l : List UInt8) : Pc := pick table l

def StartsAt (W : World) (N : Nat) : Prop := ∀ i o, (startObjs N)[i]? = some o → W.heap[N + i]? = some o
theorem StartsAt.below {W W' : World} {N B : Nat} (h : StartsAt W N) (hb : Below B W W') (hB : N + 32 ≤ B) : StartsAt W' N := fun i o hi => by
  have hl : i < 32 := (List.getElem?_eq_some_iff.1 hi).1
  rw [hb.block _ (by omega)]
  exact h i o hi
theorem startsAt_allocs (w : World) : StartsAt (allocs w (startObjs w.heap.size)) w.heap.size := fun i o hi => by
  have hl : i < 32 := (List.getElem?_eq_some_iff.1 hi).1
  rw [allocs_heap, Array.getElem?_append_right (by omega), Nat.add_sub_cancel_left]
  simpa using hi

def BeginsOk (N : Nat) (bv : Value) (p : List UInt8 → Bool) : Prop := ∃ f c, bv = .func (.func f) #[] #[c] ∧ (∀ (args : Array Value) (w : World), (callFunc f args).run Tryz.prog w = .ok (.enter f args) w) ∧
  ∀ (s : ByteArray) (W : World), 1 ≤ s.size → s.size ≤ 65536 → StartsAt W N → Calls Tryz.prog f #[.string s, c] W fun e w' => e = .returned (.bool (p s.data.toList)) ∧ ∃ m, w' = W.drewN m
def ReadOk (N : Nat) (rv : Value) (r : List UInt8 → Pc) : Prop :=
  (∃ f, rv = .func (.func f) #[] #[] ∧ (∀ (args : Array Value) (w : World), (callFunc f args).run Tryz.prog w = .ok (.enter f args) w) ∧
    ∀ (s : ByteArray) (W : World), 1 ≤ s.size → s.size ≤ 65536 → StartsAt W N → Calls Tryz.prog f #[.string s] W fun e w' => e = .returned (pieceV (r s.data.toList)) ∧ Below W.heap.size W w') ∨
  (∃ f c, rv = .func (.func f) #[] #[c] ∧ (∀ (args : Array Value) (w : World), (callFunc f args).run Tryz.prog w = .ok (.enter f args) w) ∧
    ∀ (s : ByteArray) (W : World), 1 ≤ s.size → s.size ≤ 65536 → StartsAt W N → Calls Tryz.prog f #[.string s, c] W fun e w' => e = .returned (pieceV (r s.data.toList)) ∧ Below W.heap.size W w')

def rowsV (N : Nat) : List (Value × Value) :=
  [(byteV N, plainV 52), (textV (N + 1), plainV 54), (byteV (N + 2), plainV 56),
   (textV (N + 5), signV (N + 4)), (textV (N + 8), signV (N + 7)), (textV (N + 11), signV (N + 10)), (textV (N + 14), signV (N + 13)), (textV (N + 17), signV (N + 16)), (textV (N + 20), signV (N + 19)), (textV (N + 23), signV (N + 22)),
   (byteV (N + 24), plainV 59), (textV (N + 25), plainV 60), (textV (N + 26), plainV 61), (textV (N + 27), refuseV (N + 28)), (textV (N + 29), refuseV (N + 30))]

theorem enters_text : ∀ (args : Array Value) (w : World), (callFunc 96 args).run Tryz.prog w = .ok (.enter 96 args) w := by
  intro args w; simp [go_sem]
theorem enters_byte : ∀ (args : Array Value) (w : World), (callFunc 94 args).run Tryz.prog w = .ok (.enter 94 args) w := by
  intro args w; simp [go_sem]
theorem enters_letter : ∀ (args : Array Value) (w : World), (callFunc 55 args).run Tryz.prog w = .ok (.enter 55 args) w := by
  intro args w; simp [go_sem]
theorem enters_times : ∀ (args : Array Value) (w : World), (callFunc 58 args).run Tryz.prog w = .ok (.enter 58 args) w := by
  intro args w; simp [go_sem]

theorem begins_text {N : Nat} (i : Nat) (t : List UInt8) (h : (startObjs N)[i]? = some (textO t)) : BeginsOk N (textV (N + i)) (fun l => Lib.hasPrefix l t) :=
  ⟨_, _, rfl, enters_text, fun s W _ _ hS => by
    have hc : W.cell? ⟨N + i, 0, none⟩ = some (.string (bs t)) := (Blk.cell (t := 9) (cs := #[.string (bs t)]) (hS i _ h) 0).trans rfl
    have := textIs_any s (bs t) (N + i) W hc
    rw [bs_toList] at this
    exact this⟩
theorem begins_byte {N : Nat} (i : Nat) (f : Nat) (p : Int → Bool) (h : (startObjs N)[i]? = some (byteO f))
    (eg : ∀ (args : Array Value) (w : World), (callFunc f args).run Tryz.prog w = .ok (.enter f args) w)
    (hp : ∀ (n : Int) (w : World), 0 ≤ n → n ≤ 255 → Calls Tryz.prog f #[.int .u8 n] w fun e w' => e = .returned (.bool (p n)) ∧ w = w') : BeginsOk N (byteV (N + i)) (fun l => p (byteZ l 0)) :=
  ⟨_, _, rfl, enters_byte, fun s W h1 _ hS => by
    have hc : W.cell? ⟨N + i, 0, none⟩ = some (plainV f) := (Blk.cell (t := 106) (cs := #[plainV f]) (hS i _ h) 0).trans rfl
    exact byteIs_any s f p (N + i) W h1 hc eg hp⟩
theorem read_sign {N : Nat} (i : Nat) (kind : Int) (t : List UInt8) (h : (startObjs N)[i]? = some (signO kind t)) : ReadOk N (signV (N + i)) (fun _ => { tok := { kind := kind }, size := t.length }) :=
  .inr ⟨_, _, rfl, by intro args w; simp [go_sem], fun s W _ _ hS => signIs_any s _ (N + i) W (hS i _ h)⟩
theorem read_refuse {N : Nat} (i : Nat) (er : Nat) (h : (startObjs N)[i]? = some (refuseO er)) : ReadOk N (refuseV (N + i)) (fun _ => { bad := 0, err := er }) :=
  .inr ⟨_, _, rfl, by intro args w; simp [go_sem], fun s W _ _ hS => refuseIs_any s er (N + i) W (hS i _ h)⟩

theorem row_ok (N : Nat) : ∀ (k : Nat) (bv rv : Value) (row : Row), (rowsV N)[k]? = some (bv, rv) → table[k]? = some row → BeginsOk N bv row.1 ∧ ReadOk N rv row.2 := by
  intro k bv rv row hk ht
  have key : ∀ (p : List UInt8 → Bool) (r : List UInt8 → Pc) (b v : Value), (bv, rv) = (b, v) → row = (p, r) → BeginsOk N b p → ReadOk N v r → BeginsOk N bv row.1 ∧ ReadOk N rv row.2 := by
    intro p r b v h1 h2 h3 h4
    injection h1 with h1 h5
    subst h1; subst h5; subst h2
    exact ⟨h3, h4⟩
  match k with
  | 0 => exact key _ _ _ _ (Option.some.inj hk).symm (Option.some.inj ht).symm (begins_byte 0 _ blankZ rfl enters_blank (fun n w _ _ => isBlank_any n w)) (.inl ⟨_, rfl, by intro args w; simp [go_sem], fun s W _ hs _ => passBlanks_any s hs W⟩)
  | 1 => exact key _ _ _ _ (Option.some.inj hk).symm (Option.some.inj ht).symm (begins_text 1 [59] rfl) (.inl ⟨_, rfl, by intro args w; simp [go_sem], fun s W _ hs _ => by have := passRemark_any s W; rw [← listLen] at this; exact this⟩)
  | 2 => exact key _ _ _ _ (Option.some.inj hk).symm (Option.some.inj ht).symm (begins_byte 2 _ letterZ rfl enters_letter (fun n w _ _ => isLetter_any n w)) (.inl ⟨_, rfl, by intro args w; simp [go_sem], fun s W _ hs _ => readName_any s hs W⟩)
  | 3 => exact key _ _ _ _ (Option.some.inj hk).symm (Option.some.inj ht).symm (begins_text 5 [61, 47] rfl) (read_sign 4 3 [61, 47] rfl)
  | 4 => exact key _ _ _ _ (Option.some.inj hk).symm (Option.some.inj ht).symm (begins_text 8 [61] rfl) (read_sign 7 2 [61] rfl)
  | 5 => exact key _ _ _ _ (Option.some.inj hk).symm (Option.some.inj ht).symm (begins_text 11 [47] rfl) (read_sign 10 4 [47] rfl)
  | 6 => exact key _ _ _ _ (Option.some.inj hk).symm (Option.some.inj ht).symm (begins_text 14 [40] rfl) (read_sign 13 5 [40] rfl)
  | 7 => exact key _ _ _ _ (Option.some.inj hk).symm (Option.some.inj ht).symm (begins_text 17 [41] rfl) (read_sign 16 6 [41] rfl)
  | 8 => exact key _ _ _ _ (Option.some.inj hk).symm (Option.some.inj ht).symm (begins_text 20 [91] rfl) (read_sign 19 7 [91] rfl)
  | 9 => exact key _ _ _ _ (Option.some.inj hk).symm (Option.some.inj ht).symm (begins_text 23 [93] rfl) (read_sign 22 8 [93] rfl)
  | 10 => exact key _ _ _ _ (Option.some.inj hk).symm (Option.some.inj ht).symm (begins_byte 24 _ timesZ rfl enters_times (fun n w _ _ => isTimes_any n w)) (.inl ⟨_, rfl, by intro args w; simp [go_sem], fun s W _ hs _ => readTimes_any s hs W⟩)
  | 11 => exact key _ _ _ _ (Option.some.inj hk).symm (Option.some.inj ht).symm (begins_text 25 [34] rfl) (.inl ⟨_, rfl, by intro args w; simp [go_sem], fun s W h1 hs _ => readChars_any s hs h1 W⟩)
  | 12 => exact key _ _ _ _ (Option.some.inj hk).symm (Option.some.inj ht).symm (begins_text 26 [37] rfl) (.inl ⟨_, rfl, by intro args w; simp [go_sem], fun s W _ hs _ => readValues_any s hs W⟩)
  | 13 => exact key _ _ _ _ (Option.some.inj hk).symm (Option.some.inj ht).symm (begins_text 27 [60] rfl) (read_refuse 28 16 rfl)
  | 14 => exact key _ _ _ _ (Option.some.inj hk).symm (Option.some.inj ht).symm (begins_text 29 [] rfl) (read_refuse 30 11 rfl)
  | n + 15 => exact absurd ht (by simp [table])

theorem pick_yes {k : Nat} {row : Row} {l : List UInt8} (ht : table[k]? = some row) (hp : row.1 l = true) (h : readP l = pick (table.drop k) l) : readP l = row.2 l := by
  obtain ⟨hk, e⟩ := List.getElem?_eq_some_iff.1 ht
  rw [h, List.drop_eq_getElem_cons hk, e, pick, if_pos hp]
theorem pick_no {k : Nat} {row : Row} {l : List UInt8} (ht : table[k]? = some row) (hp : row.1 l = false) (h : readP l = pick (table.drop k) l) : readP l = pick (table.drop (k + 1)) l := by
  obtain ⟨hk, e⟩ := List.getElem?_eq_some_iff.1 ht
  rw [h, List.drop_eq_getElem_cons hk, e, pick, if_neg (by simp [hp])]
theorem table_size : table.length = 15 := rfl
theorem rowsV_size (N : Nat) : (rowsV N).length = 15 := rfl
theorem cells_rows {W : World} {N : Nat} (h : StartsAt W N) (k : Nat) (bv rv : Value) (hk : (rowsV N)[k]? = some (bv, rv)) : W.cell? ⟨N + 31, k * 2, none⟩ = some bv ∧ W.cell? ⟨N + 31, k * 2 + 1, none⟩ = some rv := by
  have hB := fun i => Blk.cell (t := 109) (h 31 _ rfl) i
  rw [hB, hB]
  match k, hk with
  | 0, hk | 1, hk | 2, hk | 3, hk | 4, hk | 5, hk | 6, hk | 7, hk | 8, hk | 9, hk | 10, hk | 11, hk | 12, hk | 13, hk | 14, hk =>
    injection Option.some.inj hk with h1 h2
    subst h1; subst h2
    exact ⟨rfl, rfl⟩
  | n + 15, hk => exact absurd hk (by simp [rowsV])

set_option maxHeartbeats 2000000 in
theorem readPiece_any (s : ByteArray) (g N : Nat) (v : Value) (o : Bool) (h1 : 1 ≤ s.size) (hs : s.size ≤ 65536) (w : World) (hS : StartsAt w N) (hN : N + 32 ≤ w.heap.size)
    (hg : Blk w g 62 #[.slice (some ⟨N + 31, 0, none⟩) 15 15, v, .bool o]) :
    Calls Tryz.prog 109 #[.pointer (some ⟨g, 0, none⟩), .string s] w fun e w' => e = .returned (pieceV (readP s.data.toList)) ∧ Below w.heap.size w w' := by
  have hc := hg.cell
  have hlt := hg.lt
  have hsf := run_store_func Tryz.prog
  have HP0 := Lib.hid (show readP s.data.toList = pick (table.drop 0) s.data.toList from rfl)
  generalize hP : readP s.data.toList = P at *
  have HPP := Lib.hid hP
  clear hP
  go_enter Tryz.func109, Tryz.ntmps109
  go_wp2
  have hR0 : Blk (w.alloc (.cells zeroCells 142)) w.heap.size 142 zeroCells := Blk.new _ _ _
  have hB0 : Below w.heap.size w (w.alloc (.cells zeroCells 142)) := (Below.refl _ _).alloc (Nat.le_refl _) _
  have hS0 : StartsAt (w.alloc (.cells zeroCells 142)) N := hS.below hB0 hN
  have hz0 : (w.alloc (.cells zeroCells 142)).heap.size = w.heap.size + 1 := by simp
  clear hc hg hlt hS
  unfold zeroCells at hR0 hB0 hS0 hz0
  generalize w.alloc (.cells #[.int .u8 0, .int .i64 0, .string ⟨#[]⟩, .int .i64 0, .int .i64 0, .int .u8 0, .int .u8 0, .int .i64 0, .int .i64 0, .int .i64 0] 142) = W0 at *
  go_loopw [12] (fun i wr => ∃ k : Nat, k ≤ 15 ∧ i = .int .i64 k ∧ Below W0.heap.size W0 wr ∧ Hid (P = pick (table.drop k) s.data.toList)) (fun i _ => 15 - (intOf i).toNat)
  case atStart => exact ⟨0, by omega, rfl, Below.refl _ _, HP0⟩
  case round =>
    clear HP0
    obtain ⟨k, hk, rfl, hbel, HP⟩ := hrel
    have hSr := hS0.below hbel (by omega)
    have hRr := hR0.below hbel (by omega)
    have hbsz := hbel.size
    by_cases hlt : k < 15
    · obtain ⟨bv, rv, hrow⟩ : ∃ bv rv, (rowsV N)[k]? = some (bv, rv) := ⟨_, _, List.getElem?_eq_getElem (by rw [rowsV_size]; exact hlt)⟩
      obtain ⟨row, htab⟩ : ∃ row, table[k]? = some row := ⟨_, List.getElem?_eq_getElem (by rw [table_size]; exact hlt)⟩
      obtain ⟨hc1, hc2⟩ := cells_rows hSr k bv rv hrow
      obtain ⟨hbeg, hread⟩ := row_ok N k bv rv row hrow htab
      obtain ⟨f, c, rfl, egf, hcall⟩ := hbeg
      have HC := Lib.hid hcall
      have HT := Lib.hid htab
      clear hcall htab hrow
      rcases hread with ⟨f2, rfl, eg2, hcall2⟩ | ⟨f2, c2, rfl, eg2, hcall2⟩
      · have HC2 := Lib.hid hcall2
        clear hcall2
        go_wp2_with fail
        refine (HC.out s _ h1 hs (hSr.below ((Below.refl _ _).alloc (Nat.le_refl _) _) (by omega))).mono ?_
        rintro e w2 ⟨rfl, m, hm⟩
        have hb2 : Below wr.heap.size wr w2 := by rw [hm]; exact below_drewN ((Below.refl _ _).alloc (Nat.le_refl _) _) m
        have hq2 : Blk w2 wr.heap.size 109 #[.func (.func f) #[] #[c], .func (.func f2) #[] #[]] := by rw [hm]; exact Blk.new wr 109 _
        have hbel2 : Below W0.heap.size W0 w2 := hbel.trans (hb2.mono hbsz)
        clear hm hc1 hc2
        have hq2c := hq2.cell
        cases hp : row.1 s.data.toList with
        | false =>
          have HN := Lib.hid (pick_no HT.out hp (by rw [HPP.out]; exact HP.out))
          clear hp HC HC2
          go_wp2
          go_roundw
          case rel => exact ⟨k + 1, by omega, by go_num, hbel2, by rw [HPP.out] at HN; exact HN⟩
          case measure => simp [intOf]; omega
        | true =>
          have HY := Lib.hid (pick_yes HT.out hp (by rw [HPP.out]; exact HP.out))
          clear hp HC
          go_wp2_with fail
          refine (HC2.out s _ h1 hs (hS0.below hbel2 (by omega))).mono ?_
          rintro e w3 ⟨rfl, hb3⟩
          have hbel3 : Below W0.heap.size W0 w3 := hbel2.trans (hb3.mono hbel2.size)
          have hR3 := hR0.below hbel3 (by omega)
          have hcR := hR3.cell
          have hfR := hR3.frozen
          clear hq2c hb3 hb2
          have HY' := HY.out
          rw [HPP.out] at HY'
          generalize row.2 s.data.toList = P2 at *
          have HY2 := Lib.hid HY'
          clear HY' HY
          unfold pieceV
          go_wp2
          refine bodyPost_ret (v := pieceV P2) ?_ rfl ⟨by rw [HY2.out], ?_⟩
          · simp [results, Tryz.results109, go_sem, hcR]
            rfl
          · iterate 10 refine Below.setCell ?_ (by simp) _
            exact hB0.trans (hbel3.mono (by omega))
      · have HC2 := Lib.hid hcall2
        clear hcall2
        go_wp2_with fail
        refine (HC.out s _ h1 hs (hSr.below ((Below.refl _ _).alloc (Nat.le_refl _) _) (by omega))).mono ?_
        rintro e w2 ⟨rfl, m, hm⟩
        have hb2 : Below wr.heap.size wr w2 := by rw [hm]; exact below_drewN ((Below.refl _ _).alloc (Nat.le_refl _) _) m
        have hq2 : Blk w2 wr.heap.size 109 #[.func (.func f) #[] #[c], .func (.func f2) #[] #[c2]] := by rw [hm]; exact Blk.new wr 109 _
        have hbel2 : Below W0.heap.size W0 w2 := hbel.trans (hb2.mono hbsz)
        clear hm hc1 hc2
        have hq2c := hq2.cell
        cases hp : row.1 s.data.toList with
        | false =>
          have HN := Lib.hid (pick_no HT.out hp (by rw [HPP.out]; exact HP.out))
          clear hp HC HC2
          go_wp2
          go_roundw
          case rel => exact ⟨k + 1, by omega, by go_num, hbel2, by rw [HPP.out] at HN; exact HN⟩
          case measure => simp [intOf]; omega
        | true =>
          have HY := Lib.hid (pick_yes HT.out hp (by rw [HPP.out]; exact HP.out))
          clear hp HC
          go_wp2_with fail
          refine (HC2.out s _ h1 hs (hS0.below hbel2 (by omega))).mono ?_
          rintro e w3 ⟨rfl, hb3⟩
          have hbel3 : Below W0.heap.size W0 w3 := hbel2.trans (hb3.mono hbel2.size)
          have hR3 := hR0.below hbel3 (by omega)
          have hcR := hR3.cell
          have hfR := hR3.frozen
          clear hq2c hb3 hb2
          have HY' := HY.out
          rw [HPP.out] at HY'
          generalize row.2 s.data.toList = P2 at *
          have HY2 := Lib.hid HY'
          clear HY' HY
          unfold pieceV
          go_wp2
          refine bodyPost_ret (v := pieceV P2) ?_ rfl ⟨by rw [HY2.out], ?_⟩
          · simp [results, Tryz.results109, go_sem, hcR]
            rfl
          · iterate 10 refine Below.setCell ?_ (by simp) _
            exact hB0.trans (hbel3.mono (by omega))
    · obtain rfl : k = 15 := by omega
      have hcR := hRr.cell
      have hfR := hRr.frozen
      go_wp2_with fail
      refine (fault_any 0 11 _).mono ?_
      rintro e w1 ⟨rfl, hb⟩
      have hR3 := hRr.below hb (by have := hRr.lt; omega)
      clear hcR hfR
      have hcR := hR3.cell
      have hfR := hR3.frozen
      unfold pieceV
      go_wp2
      refine bodyPost_ret (v := pieceV { bad := 0, err := 11 }) ?_ rfl ⟨by rw [HP.out]; rfl, ?_⟩
      · simp [results, Tryz.results109, go_sem, hcR]
        rfl
      · iterate 10 refine Below.setCell ?_ (by simp) _
        exact hB0.trans ((hbel.trans (hb.mono hbsz)).mono (by omega))
end Go.Proofs.YtodenbimeojgdaaGreatDoor

/-
  The contracts of the lexer's methods: endRule and takeTokens. Conditions: the lexer's state in memory; at most 200000 tokens; a line of at most 65536 bytes.
-/
namespace Go.Proofs.YtodenbimeojgdaaGreatDoor
open Go.RowKit

theorem Tryz.infoTok : (Tryz.prog.info? 77).map (fun i => (i.zero, i.size, i.bytes)) = some (some (.agg #[.int .u8 0, .int .i64 0, .string ⟨#[]⟩, .int .i64 0, .int .i64 0, .int .u8 0, .int .u8 0]), 7, 56) := by kernel_rfl

def toksCells (toks : List Tk) : List Value := toks.flatMap tokCells
theorem toksCells_snoc (toks : List Tk) (t : Tk) : toksCells (toks ++ [t]) = toksCells toks ++ tokCells t := by simp [toksCells]

/-- the lexer in block g: its table, its tokens, and whether a rule is open -/
structure LexAt (w : World) (g base N : Nat) (v : Value) (toks : List Tk) (o : Bool) : Prop where
  blk : Blk w g 62 #[.slice (some ⟨N + 31, 0, none⟩) 15 15, v, .bool o]
  own : w.ownsRow base 77 7 v toks.length (toksCells toks)
  starts : StartsAt w N
  hN : N + 32 ≤ g
  hg : g < base
  hbase : base ≤ w.heap.size

theorem Blk.grown {w w' : World} {g : Nat} {t : TypeId} {cs : Array Value} {row : Option Nat} (h : Blk w g t cs) (hb : w.grownBy w' row) (hg : some g ≠ row) : Blk w' g t cs := (hb.block g h.lt hg).trans h
theorem Blk.set_ {w : World} {g : Nat} {t : TypeId} {cs : Array Value} (h : Blk w g t cs) (i : Nat) (u : Value) : Blk (w.setCell ⟨g, i, none⟩ u) g t (cs.setIfInBounds i u) := by
  unfold Blk at h ⊢
  simp [World.setCell, Array.getElem?_modify, h]

theorem LexAt.later {w w' : World} {g base N : Nat} {v : Value} {toks : List Tk} {o : Bool} (h : LexAt w g base N v toks o) (hb : Below w.heap.size w w') : LexAt w' g base N v toks o :=
  ⟨h.blk.below hb h.blk.lt, ownsRow_kept h.own hb, h.starts.below hb (by have := h.hN; have := h.hg; have := h.hbase; omega), h.hN, h.hg, Nat.le_trans h.hbase hb.size⟩

def endTok (at_ : Nat) : Tk := { kind := 13, place := at_ }

/-- what the lexer is behind a token more -/
theorem LexAt.put {w w1 : World} {g base N gg cap : Nat} {v : Value} {toks : List Tk} {o : Bool} {t : Tk} (h : LexAt w g base N v toks o)
    (hown : w1.ownsRow base 77 7 (.slice (some ⟨gg, 0, none⟩) (toks.length + 1) cap) (toks.length + 1) (toksCells toks ++ tokCells t)) (hgrow : w.grownBy w1 v.ownBlock) :
    LexAt (w1.setCell ⟨g, 1, none⟩ (.slice (some ⟨gg, 0, none⟩) (toks.length + 1) cap)) g base N (.slice (some ⟨gg, 0, none⟩) (toks.length + 1) cap) (toks ++ [t]) o ∧ Below g w (w1.setCell ⟨g, 1, none⟩ (.slice (some ⟨gg, 0, none⟩) (toks.length + 1) cap)) := by
  have hlt := h.own.lt
  have hb1 : Below g w w1 := ⟨hgrow.os, hgrow.tape, hgrow.output, hgrow.size, fun k hk => hgrow.block k (by have := h.hg; have := h.hbase; omega) (fun e => by have := (hlt k e.symm).1; have := h.hg; omega)⟩
  have hblk1 : Blk w1 g 62 _ := h.blk.grown hgrow (fun e => by have := (hlt g e.symm).1; have := h.hg; omega)
  refine ⟨⟨hblk1.set_ 1 _, ?_, ?_, h.hN, h.hg, ?_⟩, hb1.setCell (Nat.le_refl _) _⟩
  · rw [toksCells_snoc, List.length_append]
    exact ownsRow_setCell_below hown h.hg _
  · exact h.starts.below (hb1.setCell (p := ⟨g, 1, none⟩) (Nat.le_refl _) _) h.hN
  · have := hgrow.size; have := h.hbase; simp [World.setCell]; omega

theorem LexAt.flag {w : World} {g base N : Nat} {v : Value} {toks : List Tk} {o : Bool} (h : LexAt w g base N v toks o) (o' : Bool) :
    LexAt (w.setCell ⟨g, 2, none⟩ (.bool o')) g base N v toks o' ∧ Below g w (w.setCell ⟨g, 2, none⟩ (.bool o')) := by
  have hb : Below g w (w.setCell ⟨g, 2, none⟩ (.bool o')) := (Below.refl g w).setCell (p := ⟨g, 2, none⟩) (Nat.le_refl g) _
  refine ⟨⟨h.blk.set_ 2 _, ownsRow_setCell_below h.own h.hg _, h.starts.below hb h.hN, h.hN, h.hg, ?_⟩, hb⟩
  have := h.hbase; simp [World.setCell]; omega

set_option maxHeartbeats 1000000 in
theorem endRule_shut (g base N : Nat) (v : Value) (toks : List Tk) (at_ : Int) (w : World) (h : LexAt w g base N v toks false) :
    Calls Tryz.prog 28 #[.pointer (some ⟨g, 0, none⟩), .int .i64 at_] w fun e w' => e = .returned (.tuple #[]) ∧ LexAt w' g base N v toks false ∧ Below g w w' := by
  have hc := h.blk.cell
  have hf := h.blk.frozen
  go_enter Tryz.func28, Tryz.ntmps28
  go_wp2
  go_end0
  exact ⟨rfl, h.flag false⟩

set_option maxHeartbeats 1000000 in
theorem endRule_open (g base N : Nat) (v : Value) (toks : List Tk) (at_ : Nat) (w : World) (h : LexAt w g base N v toks true) (hn : toks.length ≤ 200000) :
    Calls Tryz.prog 28 #[.pointer (some ⟨g, 0, none⟩), .int .i64 at_] w fun e w' => e = .returned (.tuple #[]) ∧ (∃ v', LexAt w' g base N v' (toks ++ [endTok at_]) false) ∧ Below g w w' := by
  obtain ⟨i0, hi0, hz0, hz1, hz2⟩ := info_parts Tryz.infoTok
  have hc := h.blk.cell
  have hf := h.blk.frozen
  go_enter Tryz.func28, Tryz.ntmps28
  go_wp2_with (at_builtin; refine wpList_append_lies _ rfl _ _ 22 rfl base 77 i0 _ 7 56 Tryz.underlying22 hi0 hz0 hz1 hz2 rfl (by decide) v toks.length (toksCells toks) (by rfl) (h.own.alloc _) ⟨w.heap.size, 0, none⟩ 1 1 (tokCells (endTok at_)) (by rfl) (by rfl) (World.news_of_block (cs := (tokCells (endTok at_)).toArray) (t := 77) (fr := (0, 0)) (heap_alloc_new w _)) ?c1 (by omega) ?c2 ?c3 ?c4 (w.heap.size + 1) (by simp) ?_)
  case c1 => simp [tokCells, endTok, Value.oneCell']
  case c2 => unfold maxLen; omega
  case c3 => omega
  case c4 => have := h.hbase; simp; omega
  intro gg cap w1 hown hgrow _ _
  have hput := (h.later ((Below.refl _ _).alloc (Nat.le_refl _) _)).put hown hgrow
  have hfl := hput.1.flag false
  have hbel : Below g w (w.alloc (.cells (tokCells (endTok at_)).toArray 77)) := (Below.refl _ _).alloc (by have := h.hg; have := h.hbase; omega) _
  have hb1 : Blk w1 g 62 _ := (h.blk.alloc _).grown hgrow (fun e => by have := (h.own.lt g e.symm).1; have := h.hg; omega)
  have hc1 := hb1.cell
  have hf1 := hb1.frozen
  have HF := Lib.hid hfl
  have HP := Lib.hid hput
  have HB := Lib.hid (hbel.trans (hput.2.trans hfl.2))
  clear hput hfl hbel hb1 hgrow hown hc hf
  go_wp2
  go_end0
  exact ⟨rfl, ⟨_, HF.out.1⟩, HB.out⟩
end Go.Proofs.YtodenbimeojgdaaGreatDoor

/-
  Plain facts on what is read of a line: how many bytes, and where an error lies. No conditions.
-/
namespace Go.Proofs.YtodenbimeojgdaaGreatDoor

/-- at least one byte, and no more than there are; an error within the text -/
def Fits (p : Pc) (l : List UInt8) : Prop := p.bad ≤ l.length ∧ (p.err = 0 → 1 ≤ p.size ∧ p.size ≤ l.length) ∧ p.err ≤ 16

theorem byteZ_cons (c : UInt8) (r : List UInt8) : byteZ (c :: r) 0 = c.toNat := rfl
theorem spanZ_pos (p : Int → Bool) (l : List UInt8) (h : l ≠ []) (hp : p (byteZ l 0) = true) : 1 ≤ spanZ p l := by
  cases l with
  | nil => exact absurd rfl h
  | cons c r => rw [byteZ_cons] at hp; rw [spanZ, if_pos hp]; omega
theorem named_of_letter {n : Int} (h : letterZ n = true) : namedZ n = true := by simp [namedZ, h]
theorem prefix_le {l t : List UInt8} (h : Lib.hasPrefix l t = true) : t.length ≤ l.length := by
  obtain ⟨r, hr⟩ := List.isPrefixOf_iff_prefix.1 h
  rw [← hr, List.length_append]
  omega
theorem quoteAt_lt : ∀ (l : List UInt8) (i : Nat), quoteAt l = some i → i < l.length := by
  intro l
  induction l with
  | nil => intro i h; cases h
  | cons c r ih =>
    intro i h
    rw [quoteAt] at h
    split at h
    · injection h with h; subst h; simp
    · split at h
      · cases h
      · cases hq : quoteAt r with
        | none => rw [hq] at h; cases h
        | some j =>
          rw [hq] at h
          have h' : j + 1 = i := Option.some.inj h
          have := ih j hq
          simp only [List.length_cons]
          omega
theorem moreVals_bd {l : List UInt8} {base : Int} (hb0 : 0 ≤ base) (hb1 : base ≤ 16) : ∀ (f k : Nat) (nums : List Int) (out : List Int) (k2 : Nat), k ≤ l.length → moreVals l base f k nums = some (out, k2) → k ≤ k2 ∧ k2 ≤ l.length := by
  intro f
  induction f with
  | zero => intro k nums out k2 _ h; cases h
  | succ f ih =>
    intro k nums out k2 hk h
    rw [moreVals] at h
    split at h
    · cases hv : valueZ l (k + 1) base with
      | none => rw [hv] at h; cases h
      | some vk =>
        obtain ⟨v, k3⟩ := vk
        rw [hv] at h
        have hb := valueZ_bd hb0 hb1 hv
        have := ih k3 _ out k2 hb.2.2.2 h
        omega
    · injection h with h
      injection h with _ h
      omega
theorem fits_wrong (l : List UInt8) : Fits wrongP l := ⟨Nat.zero_le _, (fun h => by cases h), by decide⟩
theorem fits_values (l : List UInt8) : Fits (valuesP l) l := by
  obtain ⟨hb0, hb1⟩ := baseZ_bd l
  unfold valuesP
  cases hv : valueZ l 2 (baseZ l) with
  | none => exact fits_wrong l
  | some ak =>
    obtain ⟨a, k⟩ := ak
    have hb := valueZ_bd hb0 hb1 hv
    rw [valuesOf]
    split
    · cases hv2 : valueZ l (k + 1) (baseZ l) with
      | none => exact fits_wrong l
      | some bk =>
        obtain ⟨b, k2⟩ := bk
        have hb2 := valueZ_bd hb0 hb1 hv2
        rw [rangeOf]
        split
        · exact fits_wrong l
        · exact ⟨Nat.zero_le _, fun _ => ⟨by show 1 ≤ k2; omega, hb2.2.2.2⟩, Nat.zero_le _⟩
    · cases hm : moreVals l (baseZ l) (l.length + 1) k [a] with
      | none => exact fits_wrong l
      | some nk =>
        obtain ⟨nums, k2⟩ := nk
        have hm2 := moreVals_bd hb0 hb1 _ _ _ _ _ hb.2.2.2 hm
        exact ⟨Nat.zero_le _, fun _ => ⟨by show 1 ≤ k2; omega, hm2.2⟩, by simp [bytesOf]⟩
theorem fits_chars (l : List UInt8) : Fits (charsP l) l := by
  unfold charsP
  cases hq : quoteAt (l.drop 1) with
  | none => exact ⟨Nat.zero_le _, (fun h => by cases h), by simp [charsOf]⟩
  | some i =>
    have := quoteAt_lt _ _ hq
    rw [List.length_drop] at this
    exact ⟨Nat.zero_le _, fun _ => ⟨by show 1 ≤ i + 2; omega, by show i + 2 ≤ _; omega⟩, by simp [charsOf]⟩
theorem fits_times (l : List UInt8) (hl : l ≠ []) (h : timesZ (byteZ l 0) = true) : Fits (timesP l) l := by
  have hle := spanZ_le digitZ l
  unfold timesP
  split
  · exact ⟨Nat.zero_le _, (fun h => by cases h), by decide⟩
  · split
    · rename_i hst
      have hlt := standsB_lt hst
      have hle2 := spanZ_le digitZ (l.drop (spanZ digitZ l + 1))
      rw [List.length_drop] at hle2
      split
      · exact ⟨by show spanZ digitZ l + 1 ≤ _; omega, (fun h => by cases h), by simp⟩
      · split
        · split
          · exact ⟨Nat.zero_le _, (fun h => by cases h), by decide⟩
          · exact ⟨Nat.zero_le _, fun _ => ⟨by show 1 ≤ _ + 1 + _; omega, by show _ + 1 + _ ≤ _; omega⟩, by simp [timesTok]⟩
        · exact ⟨Nat.zero_le _, fun _ => ⟨by show 1 ≤ _ + 1; omega, by show _ + 1 ≤ _; omega⟩, by simp [timesTok]⟩
    · rename_i hst
      refine ⟨Nat.zero_le _, fun _ => ⟨?_, hle⟩, by simp [timesTok]⟩
      show 1 ≤ spanZ digitZ l
      cases hd : digitZ (byteZ l 0) with
      | true => exact spanZ_pos digitZ l hl hd
      | false =>
        exfalso
        apply hst
        have h0 : spanZ digitZ l = 0 := by
          cases l with
          | nil => exact absurd rfl hl
          | cons c r => rw [byteZ_cons] at hd; rw [spanZ, if_neg (by simp [hd])]
        rw [h0]
        simp only [timesZ, hd, Bool.false_or] at h
        have : 0 < l.length := List.length_pos_iff.2 hl
        simp [standsB, h, this]

def Good (row : Row) : Prop := ∀ l, l ≠ [] → row.1 l = true → Fits (row.2 l) l
theorem good_sign (kind : Int) (t : List UInt8) (ht : 1 ≤ t.length) : Good (signRow kind t) := fun l _ h => ⟨Nat.zero_le _, fun _ => ⟨ht, prefix_le h⟩, by simp [signRow]⟩
theorem good_err (p : List UInt8 → Bool) (er : Nat) (h1 : er ≠ 0) (h2 : er ≤ 16) : Good (p, fun _ => { bad := 0, err := er }) := fun _ _ _ => ⟨Nat.zero_le _, fun h => absurd h h1, h2⟩
theorem good_table : ∀ row ∈ table, Good row := by
  intro row h
  simp only [table, List.mem_cons, List.not_mem_nil, or_false] at h
  rcases h with rfl | rfl | rfl | rfl | rfl | rfl | rfl | rfl | rfl | rfl | rfl | rfl | rfl | rfl | rfl
  · exact fun l hl h => ⟨Nat.zero_le _, fun _ => ⟨spanZ_pos blankZ l hl h, spanZ_le _ _⟩, by simp⟩
  · exact fun l hl h => ⟨Nat.zero_le _, fun _ => ⟨List.length_pos_iff.2 hl, Nat.le_refl _⟩, by simp⟩
  · exact fun l hl h => ⟨Nat.zero_le _, fun _ => ⟨spanZ_pos namedZ l hl (named_of_letter h), spanZ_le _ _⟩, by simp [nameP]⟩
  · exact good_sign _ _ (by decide)
  · exact good_sign _ _ (by decide)
  · exact good_sign _ _ (by decide)
  · exact good_sign _ _ (by decide)
  · exact good_sign _ _ (by decide)
  · exact good_sign _ _ (by decide)
  · exact good_sign _ _ (by decide)
  · exact fun l hl h => fits_times l hl h
  · exact fun l _ _ => fits_chars l
  · exact fun l _ _ => fits_values l
  · exact good_err _ _ (by decide) (by decide)
  · exact good_err _ _ (by decide) (by decide)
theorem fits_pick (rows : List Row) (hr : ∀ row ∈ rows, Good row) (l : List UInt8) (hl : l ≠ []) : Fits (pick rows l) l := by
  induction rows with
  | nil => exact ⟨Nat.zero_le _, (fun h => by cases h), by simp [pick]⟩
  | cons row rows ih =>
    obtain ⟨p, r⟩ := row
    rw [pick]
    split
    · exact hr (p, r) (by simp) l hl (by assumption)
    · exact ih fun row h => hr row (by simp [h])
theorem fits_read (l : List UInt8) (hl : l ≠ []) : Fits (readP l) l := fits_pick table good_table l hl

/-- a line's tokens, from a place on: the tokens, and the place and the number of an error, or 0, 0 -/
def tokensF (l : List UInt8) (start : Nat) : Nat → Nat → List Tk → List Tk × Nat × Nat
  | 0, _, toks => (toks, 0, 0)
  | f + 1, at_, toks =>
    if l.length ≤ at_ then (toks, 0, 0)
    else if (readP (l.drop at_)).err ≠ 0 then (toks, start + at_ + (readP (l.drop at_)).bad, (readP (l.drop at_)).err)
    else tokensF l start f (at_ + (readP (l.drop at_)).size) (if (readP (l.drop at_)).tok.kind ≠ 0 then toks ++ [{ (readP (l.drop at_)).tok with place := (start : Int) + at_ }] else toks)
def tokensP (l : List UInt8) (start : Nat) (toks : List Tk) : List Tk × Nat × Nat := tokensF l start (l.length + 1) 0 toks

theorem tokensF_end {l : List UInt8} {start f at_ : Nat} {toks : List Tk} (h : l.length ≤ at_) : tokensF l start f at_ toks = (toks, 0, 0) := by
  cases f with
  | zero => rfl
  | succ f => rw [tokensF, if_pos h]
theorem tokensF_err {l : List UInt8} {start f at_ : Nat} {toks : List Tk} (hf : l.length < f + at_) (h : at_ < l.length) (he : (readP (l.drop at_)).err ≠ 0) :
    tokensF l start f at_ toks = (toks, start + at_ + (readP (l.drop at_)).bad, (readP (l.drop at_)).err) := by
  cases f with
  | zero => omega
  | succ f => rw [tokensF, if_neg (by omega), if_pos he]
theorem tokensF_go {l : List UInt8} {start f at_ : Nat} {toks : List Tk} (h : at_ < l.length) (he : (readP (l.drop at_)).err = 0) :
    tokensF l start (f + 1) at_ toks = tokensF l start f (at_ + (readP (l.drop at_)).size) (if (readP (l.drop at_)).tok.kind ≠ 0 then toks ++ [{ (readP (l.drop at_)).tok with place := (start : Int) + at_ }] else toks) := by
  rw [tokensF, if_neg (by omega), if_neg (by simp [he])]
end Go.Proofs.YtodenbimeojgdaaGreatDoor

/-
  The contract of lex's takeTokens: the tokens of a line. Conditions: the lexer's state in memory; at most 100000 tokens; a line of at most 65536 bytes.
-/
namespace Go.Proofs.YtodenbimeojgdaaGreatDoor
open Go.RowKit

theorem drop_ne {l : List UInt8} {k : Nat} (h : k < l.length) : l.drop k ≠ [] := by
  intro e
  have := congrArg List.length e
  simp at this
  omega

theorem news_at (W : World) (cs : List Value) (t : TypeId) (B : Nat) (hB : B = W.heap.size) : ∀ j u, cs[j]? = some u → (W.alloc (.cells cs.toArray t)).drew.cell? ((⟨B, 0, none⟩ : Addr).add j) = some u := by
  subst hB
  intro j u hj
  exact World.news_of_block (w := (W.alloc (.cells cs.toArray t)).drew) (cs := cs.toArray) (t := t) (fr := (0, 0)) (heap_alloc_new _ _) j u (by simpa using hj)
theorem lexAt_blk_grown {w w2 : World} {g base N : Nat} {v : Value} {toks : List Tk} {o : Bool} (h : LexAt w g base N v toks o) (hgrow : w.grownBy w2 v.ownBlock) : Blk w2 g 62 #[.slice (some ⟨N + 31, 0, none⟩) 15 15, v, .bool o] :=
  h.blk.grown hgrow (fun e => by have := (h.own.lt g e.symm).1; have := h.hg; omega)
theorem LexAt.drew {w : World} {g base N : Nat} {v : Value} {toks : List Tk} {o : Bool} (h : LexAt w g base N v toks o) : LexAt w.drew g base N v toks o := h.later (Below.refl _ _).drew
theorem LexAt.alloc {w : World} {g base N : Nat} {v : Value} {toks : List Tk} {o : Bool} (h : LexAt w g base N v toks o) (ob : Obj) : LexAt (w.alloc ob) g base N v toks o := h.later ((Below.refl _ _).alloc (Nat.le_refl _) _)

set_option maxRecDepth 100000 in
set_option maxHeartbeats 4000000 in
theorem takeTokens_any (s : ByteArray) (g base N start : Nat) (v : Value) (toks : List Tk) (o : Bool) (hs : s.size ≤ 65536) (hst : start ≤ 70000) (hn : toks.length + s.size ≤ 200000) (w : World) (h : LexAt w g base N v toks o) :
    Calls Tryz.prog 66 #[.pointer (some ⟨g, 0, none⟩), .string s, .int .i64 start] w fun e w' =>
      e = .returned (.tuple #[.int .i64 (tokensP s.data.toList start toks).2.1, .int .i64 (tokensP s.data.toList start toks).2.2]) ∧ (∃ v', LexAt w' g base N v' (tokensP s.data.toList start toks).1 o) ∧
      (tokensP s.data.toList start toks).1.length ≤ toks.length + s.size ∧ Below g w w' := by
  obtain ⟨i0, hi0, hz0, hz1, hz2⟩ := info_parts Tryz.infoTok
  have HLEN := Lib.hid (listLen s)
  have HR0 : Hid (tokensP s.data.toList start toks = tokensF s.data.toList start (s.data.toList.length + 1) 0 toks) := show _ = _ from rfl
  generalize tokensP s.data.toList start toks = R at *
  go_enter Tryz.func66, Tryz.ntmps66
  go_wp2
  go_loopw [8] (fun i wr => ∃ (k f : Nat) (tk : List Tk) (vv : Value), k ≤ s.size ∧ i = .int .i64 k ∧ LexAt wr g base N vv tk o ∧ tk.length ≤ toks.length + k ∧ Below g w wr ∧ s.size < f + k ∧ Hid (R = tokensF s.data.toList start f k tk)) (fun i _ => s.size - (intOf i).toNat)
  case atStart => exact ⟨0, s.data.toList.length + 1, toks, v, Nat.zero_le _, rfl, h, by omega, Below.refl _ _, by rw [HLEN.out]; omega, HR0⟩
  case round =>
    clear HR0 h
    obtain ⟨k, f, tk, vv, hk, rfl, h, htk, hbel, hfk, HR⟩ := hrel
    by_cases hlt : k < s.size
    · have hx : (s.extract k s.size).data.toList = s.data.toList.drop k := by
        rw [extract_list, List.take_of_length_le (by rw [List.length_drop, listLen]; omega)]
      have hkl : k < s.data.toList.length := by rw [HLEN.out]; exact hlt
      have hfit := fits_read _ (drop_ne hkl)
      rw [Fits, List.length_drop, HLEN.out] at hfit
      have HRP := Lib.hid (fun (h : LexAt wr g base N vv tk o) => readPiece_any (s.extract k s.size) g N vv o (by simp; omega) (by simp; omega) wr h.starts (by have := h.hN; have := h.hg; have := h.hbase; omega) h.blk)
      rw [hx] at HRP
      clear hx
      have HE := Lib.hid (fun he => tokensF_err (toks := tk) (start := start) (show s.data.toList.length < f + k from by rw [HLEN.out]; exact hfk) hkl he)
      have HG := Lib.hid (fun f he => tokensF_go (toks := tk) (start := start) (f := f) hkl he)
      clear hkl
      generalize readP (s.data.toList.drop k) = p at *
      go_wp2_with fail
      refine (HRP.out h).mono ?_
      rintro e w1 ⟨rfl, hb1⟩
      clear HRP
      have h1 := h.later hb1
      have hbel1 : Below g w w1 := hbel.trans (hb1.mono (by have := h.hg; have := h.hbase; omega))
      clear h hbel hb1
      unfold pieceV
      by_cases he : p.err = 0
      · obtain ⟨f, rfl⟩ : ∃ f', f = f' + 1 := ⟨f - 1, by omega⟩
        have HR' := HR.out
        rw [HG.out f he] at HR'
        have hsz := hfit.2.1 he
        have he' : ((p.err : Int) == 0) = true := by
          rw [beq_iff_eq]
          omega
        have he'' : ((p.err : Int) != 0) = false := by
          rw [bne_eq_false_iff_eq]
          omega
        have HEE := Lib.hid he
        clear HE HG HR he
        by_cases hkd : p.tok.kind = 0
        · rw [if_neg (by simp [hkd])] at HR'
          have HRR := Lib.hid HR'
          have hkd' : (p.tok.kind == 0) = true := by
            rw [beq_iff_eq]
            exact hkd
          have hkd'' : (p.tok.kind != 0) = false := by
            rw [bne_eq_false_iff_eq]
            exact hkd
          clear HR' hkd
          go_wp2
          go_roundw
          case rel => exact ⟨k + p.size, f, tk, vv, by omega, by go_num, h1.later ((Below.refl _ _).alloc (Nat.le_refl _) _), by omega, hbel1.alloc (by have := h1.hg; have := h1.hbase; omega) _, by omega, HRR⟩
          case measure => simp [intOf]; omega
        · rw [if_pos hkd] at HR'
          have HRR := Lib.hid HR'
          have hkd' : (p.tok.kind == 0) = false := by
            rw [beq_eq_false_iff_ne]
            exact hkd
          have hkd'' : (p.tok.kind != 0) = true := by
            rw [bne_iff_ne]
            exact hkd
          clear HR' hkd
          have hc1 := h1.blk.cell
          have hf1 := h1.blk.frozen
          have hlt1 := h1.blk.lt
          go_wp2
          go_region_law (refine step_append_lies _ (by rfl) _ _ _ (by rfl) base 77 i0 _ 7 56 Tryz.underlying22 hi0 hz0 hz1 hz2 rfl (by omega) vv tk.length (toksCells tk) (by rfl) (((h1.own.alloc _).alloc _).drew) ⟨w1.heap.size + 1, 0, none⟩ 1 1 (tokCells { p.tok with place := (start : Int) + k }) (by rfl) (by rfl) (by exact news_at _ (tokCells { p.tok with place := (start : Int) + k }) 77 (w1.heap.size + 1) (by simp)) (by simp [tokCells, Value.oneCell']) (by omega) (by unfold maxLen; omega) (by omega) (by have := h1.hbase; simp; omega) (w1.heap.size + 2) (by simp) ?_; intro gg cap w2 hown2 hgrow2 hat2 hlt2; have hb2 := lexAt_blk_grown (((h1.alloc _).alloc _).drew) hgrow2; have hc2 := hb2.cell; have hf2 := hb2.frozen; clear hb2)
          all_goals
            have hp1 : Blk ((w1.alloc (.cells (pieceCells { p with tok := { p.tok with place := (start : Int) + k } }) 142)).alloc (.cells (tokCells { p.tok with place := (start : Int) + k }).toArray 77)).drew w1.heap.size 142 (pieceCells { p with tok := { p.tok with place := (start : Int) + k } }) := (Blk.new w1 _ _).alloc _
            have hp2 := hp1.grown hgrow2 (fun e => by have := (h1.own.lt _ e.symm).2; omega)
            have hp2c := hp2.cell
            unfold pieceCells at hp2c
            clear hp1 hp2
            have hput := (((h1.alloc _).alloc _).drew).put hown2 hgrow2
            have hbel2 : Below g w _ := ((hbel1.alloc (by have := h1.hg; have := h1.hbase; omega) _).alloc (by have := h1.hg; have := h1.hbase; simp; omega) _).drew.trans hput.2
            have HPUT := Lib.hid hput
            have HBEL := Lib.hid hbel2
            clear hput hbel2 hown2 hgrow2 hat2
            go_wp2
            go_roundw
            case rel => exact ⟨k + p.size, f, _, _, by omega, by go_num, HPUT.out.1, by simp; omega, HBEL.out, by omega, HRR⟩
            case measure => simp [intOf]; omega
      · have HR' : Hid (R = (tk, start + k + p.bad, p.err)) := by
          show R = _
          rw [HR.out, HE.out he]
        have he' : ((p.err : Int) == 0) = false := by
          rw [beq_eq_false_iff_ne]
          omega
        have he'' : ((p.err : Int) != 0) = true := by
          rw [bne_iff_ne]
          omega
        clear HE HG HR
        have hbad := hfit.1
        have e1 : IntKind.i64.wrap ((start : Int) + k) = (start : Int) + k := IntWalk.i64_in _ (by omega)
        have e2 : IntKind.i64.wrap ((start : Int) + k + p.bad) = (start : Int) + k + p.bad := IntWalk.i64_in _ (by omega)
        go_wp2
        go_region
        clear e1 e2
        go_wp2
        go_ret2
        refine ⟨by rw [HR'.out]; simp, ⟨vv, ?_⟩, by rw [HR'.out]; show tk.length ≤ _; omega, ?_⟩
        · rw [HR'.out]
          exact h1.later (((Below.refl _ _).alloc (Nat.le_refl _) _).drew)
        · exact (hbel1.alloc (by have := h1.hg; have := h1.hbase; omega) _).drew
    · have HR' : Hid (R = (tk, 0, 0)) := by
        show R = _
        rw [HR.out, tokensF_end (by rw [HLEN.out]; omega)]
      clear HR
      go_wp2
      go_ret2
      refine ⟨by rw [HR'.out]; simp, ⟨vv, ?_⟩, by rw [HR'.out]; show tk.length ≤ _; omega, hbel⟩
      rw [HR'.out]
      exact h
end Go.Proofs.YtodenbimeojgdaaGreatDoor

/-
  The contracts of lex's isIdle, takeLine and cutLine. Conditions: the lexer's state in memory; a text of at most 65536 bytes.
-/
namespace Go.Proofs.YtodenbimeojgdaaGreatDoor
open Go.RowKit

/-- a line that is passed over -/
def idleB (l : List UInt8) : Bool := decide (spanZ blankZ l = l.length) || (byteZ l (spanZ blankZ l) == 59)

set_option maxHeartbeats 1000000 in
theorem isIdle_any (s : ByteArray) (hs : s.size ≤ 65536) (w : World) :
    Calls Tryz.prog 65 #[.string s] w fun e w' => e = .returned (.bool (idleB s.data.toList)) ∧ w = w' := by
  have hle := spanZ_le blankZ s.data.toList
  rw [listLen] at hle
  have HSP := Lib.hid (fun w => span_same s _ blankZ hs enters_blank (fun n w _ _ => isBlank_any n w) w)
  have HI := Lib.hid (idleB.eq_1 s.data.toList)
  rw [listLen] at HI
  generalize idleB s.data.toList = I at *
  generalize spanZ blankZ s.data.toList = n at *
  by_cases hn : n = s.size
  · have hb : ((n : Int) == (s.size : Int)) = true := by
      rw [beq_iff_eq]
      omega
    have hI : Hid (I = true) := by
      show I = true
      rw [HI.out]
      simp [hn]
    clear hn HI
    go_enter Tryz.func65, Tryz.ntmps65
    go_wp2_with (go_at_call 95; refine (HSP.out _).mono ?_; rintro e w' ⟨rfl, rfl⟩)
    go_ret
    exact ⟨ret_bool (by rw [hI.out]), rfl⟩
  · have hlt : n < s.size := by omega
    have hb : ((n : Int) == (s.size : Int)) = false := by
      rw [beq_eq_false_iff_ne]
      omega
    have HB := Lib.hid (byteZ_at s n hlt)
    have hI : Hid (I = (byteZ s.data.toList n == 59)) := by
      show I = _
      rw [HI.out]
      simp [hn]
    clear hn HI
    go_enter Tryz.func65, Tryz.ntmps65
    go_wp2_with (go_at_call 95; refine (HSP.out _).mono ?_; rintro e w' ⟨rfl, rfl⟩)
    go_ret
    exact ⟨ret_bool (by rw [hI.out, HB.out]), rfl⟩

/-- what a line does: the tokens, whether a rule is open, and the place and the number of an error, or 0, 0 -/
structure Ln where
  toks : List Tk
  opened : Bool
  place : Nat
  err : Nat
def lineP (l : List UInt8) (start : Nat) (toks : List Tk) (o : Bool) : Ln :=
  if idleB l = true then ⟨toks, o, 0, 0⟩
  else if letterZ (byteZ l 0) = true then
    ⟨(tokensP l start (if o = true then toks ++ [endTok start] else toks)).1, true, (tokensP l start (if o = true then toks ++ [endTok start] else toks)).2.1, (tokensP l start (if o = true then toks ++ [endTok start] else toks)).2.2⟩
  else if (blankZ (byteZ l 0) && o) = true then ⟨(tokensP l start toks).1, o, (tokensP l start toks).2.1, (tokensP l start toks).2.2⟩
  else ⟨toks, o, start, 10⟩

theorem idle_nil : idleB [] = true := by decide

set_option maxHeartbeats 4000000 in
theorem takeLine_any (s : ByteArray) (g base N start : Nat) (v : Value) (toks : List Tk) (o : Bool) (hs : s.size ≤ 65536) (hst : start ≤ 70000) (hn : toks.length + s.size ≤ 199999) (w : World) (h : LexAt w g base N v toks o) :
    Calls Tryz.prog 27 #[.pointer (some ⟨g, 0, none⟩), .string s, .int .i64 start] w fun e w' =>
      e = .returned (.tuple #[.int .i64 (lineP s.data.toList start toks o).place, .int .i64 (lineP s.data.toList start toks o).err]) ∧ (∃ v', LexAt w' g base N v' (lineP s.data.toList start toks o).toks (lineP s.data.toList start toks o).opened) ∧
      (lineP s.data.toList start toks o).toks.length ≤ toks.length + 1 + s.size ∧ Below g w w' := by
  have HID := Lib.hid (fun W => isIdle_any s hs W)
  have HL := lineP.eq_1 s.data.toList start toks o
  generalize lineP s.data.toList start toks o = R at *
  cases hid : idleB s.data.toList with
  | true =>
    rw [hid] at HID
    rw [if_pos hid] at HL
    have HR := Lib.hid HL
    clear HL hid
    go_enter Tryz.func27, Tryz.ntmps27
    go_wp2_with (go_at_call 65; refine (HID.out _).mono ?_; rintro e w' ⟨rfl, rfl⟩)
    go_ret2
    refine ⟨by rw [HR.out]; rfl, ⟨v, ?_⟩, by rw [HR.out]; show toks.length ≤ _; omega, Below.refl _ _⟩
    rw [HR.out]
    exact h
  | false =>
    have h1 : 1 ≤ s.size := by
      rcases Nat.eq_zero_or_pos s.size with h0 | h0
      · have : s.data.toList = [] := List.eq_nil_of_length_eq_zero (by rw [listLen]; exact h0)
        rw [this] at hid
        cases hid
      · exact h0
    have h1' : 0 < s.size := h1
    rw [hid] at HID
    rw [if_neg (by simp [hid])] at HL
    clear hid
    have HB := Lib.hid (byteZ_at s 0 h1)
    have hlo := byteZ_lo s.data.toList 0
    have hhi := byteZ_hi s.data.toList 0
    rw [← HB.out] at hlo hhi
    have HLT := Lib.hid (fun W => isLetter_any (byteZ s.data.toList 0) W)
    have HBL := Lib.hid (fun W => isBlank_any (byteZ s.data.toList 0) W)
    rw [← HB.out] at HL HLT HBL
    cases hlt : letterZ ((s[0]'h1').toNat : Int) with
    | true =>
      rw [hlt] at HLT
      rw [if_pos hlt] at HL
      clear hlt
      cases o with
      | true =>
        rw [if_pos rfl] at HL
        have HR := Lib.hid HL
        clear HL
        go_enter Tryz.func27, Tryz.ntmps27
        go_wp2_with (first | (go_at_call 65; refine (HID.out _).mono ?_; rintro e w' ⟨rfl, rfl⟩) | (go_at_call 55; refine (HLT.out _).mono ?_; rintro e w' ⟨rfl, rfl⟩))
        refine (endRule_open g base N v toks start _ h (by omega)).mono ?_
        rintro e w1 ⟨rfl, ⟨v1, hl1⟩, hb1⟩
        have hc1 := hl1.blk.cell
        have hf1 := hl1.blk.frozen
        have hfl := hl1.flag true
        have HF := Lib.hid hfl
        clear hfl
        go_wp2_with fail
        refine (takeTokens_any s g base N start v1 (toks ++ [endTok start]) true hs hst (by simp; omega) _ HF.out.1).mono ?_
        rintro e w2 ⟨rfl, ⟨v2, hl2⟩, hlen, hb2⟩
        generalize tokensP s.data.toList start (toks ++ [endTok start]) = T at *
        have HB2 := Lib.hid (hb1.trans (HF.out.2.trans hb2))
        clear hc1 hf1 hl1 hb1 hb2 HF
        go_wp2
        go_ret2
        refine ⟨by rw [HR.out]; rfl, ⟨v2, ?_⟩, by rw [HR.out]; simp at hlen; show T.1.length ≤ _; omega, HB2.out⟩
        rw [HR.out]
        exact hl2
      | false =>
        rw [if_neg (by simp)] at HL
        have HR := Lib.hid HL
        clear HL
        go_enter Tryz.func27, Tryz.ntmps27
        go_wp2_with (first | (go_at_call 65; refine (HID.out _).mono ?_; rintro e w' ⟨rfl, rfl⟩) | (go_at_call 55; refine (HLT.out _).mono ?_; rintro e w' ⟨rfl, rfl⟩))
        refine (endRule_shut g base N v toks start _ h).mono ?_
        rintro e w1 ⟨rfl, hl1, hb1⟩
        have hc1 := hl1.blk.cell
        have hf1 := hl1.blk.frozen
        have hfl := hl1.flag true
        have HF := Lib.hid hfl
        clear hfl
        go_wp2_with fail
        refine (takeTokens_any s g base N start v toks true hs hst (by omega) _ HF.out.1).mono ?_
        rintro e w2 ⟨rfl, ⟨v2, hl2⟩, hlen, hb2⟩
        generalize tokensP s.data.toList start toks = T at *
        have HB2 := Lib.hid (hb1.trans (HF.out.2.trans hb2))
        clear hc1 hf1 hl1 hb1 hb2 HF
        go_wp2
        go_ret2
        refine ⟨by rw [HR.out]; rfl, ⟨v2, ?_⟩, by rw [HR.out]; show T.1.length ≤ _; omega, HB2.out⟩
        rw [HR.out]
        exact hl2
    | false =>
      rw [hlt] at HLT
      rw [if_neg (by simp [hlt])] at HL
      clear hlt
      have hc0 := h.blk.cell
      cases hbl : blankZ ((s[0]'h1').toNat : Int) with
      | false =>
        rw [hbl] at HBL HL
        rw [if_neg (by simp)] at HL
        have HR := Lib.hid HL
        clear HL hbl
        go_enter Tryz.func27, Tryz.ntmps27
        go_wp2_with (first | (go_at_call 65; refine (HID.out _).mono ?_; rintro e w' ⟨rfl, rfl⟩) | (go_at_call 55; refine (HLT.out _).mono ?_; rintro e w' ⟨rfl, rfl⟩) | (go_at_call 51; refine (HBL.out _).mono ?_; rintro e w' ⟨rfl, rfl⟩))
        go_ret2
        refine ⟨by rw [HR.out]; rfl, ⟨v, ?_⟩, by rw [HR.out]; show toks.length ≤ _; omega, Below.refl _ _⟩
        rw [HR.out]
        exact h
      | true =>
        rw [hbl] at HBL HL
        clear hbl
        cases o with
        | false =>
          rw [if_neg (by simp)] at HL
          have HR := Lib.hid HL
          clear HL
          go_enter Tryz.func27, Tryz.ntmps27
          go_wp2_with (first | (go_at_call 65; refine (HID.out _).mono ?_; rintro e w' ⟨rfl, rfl⟩) | (go_at_call 55; refine (HLT.out _).mono ?_; rintro e w' ⟨rfl, rfl⟩) | (go_at_call 51; refine (HBL.out _).mono ?_; rintro e w' ⟨rfl, rfl⟩))
          go_ret2
          refine ⟨by rw [HR.out]; rfl, ⟨v, ?_⟩, by rw [HR.out]; show toks.length ≤ _; omega, Below.refl _ _⟩
          rw [HR.out]
          exact h
        | true =>
          rw [if_pos (by simp)] at HL
          have HR := Lib.hid HL
          clear HL
          go_enter Tryz.func27, Tryz.ntmps27
          go_wp2_with (first | (go_at_call 65; refine (HID.out _).mono ?_; rintro e w' ⟨rfl, rfl⟩) | (go_at_call 55; refine (HLT.out _).mono ?_; rintro e w' ⟨rfl, rfl⟩) | (go_at_call 51; refine (HBL.out _).mono ?_; rintro e w' ⟨rfl, rfl⟩))
          refine (takeTokens_any s g base N start v toks true hs hst (by omega) _ h).mono ?_
          rintro e w2 ⟨rfl, ⟨v2, hl2⟩, hlen, hb2⟩
          generalize tokensP s.data.toList start toks = T at *
          clear hc0
          go_wp2
          go_ret2
          refine ⟨by rw [HR.out]; rfl, ⟨v2, ?_⟩, by rw [HR.out]; show T.1.length ≤ _; omega, hb2⟩
          rw [HR.out]
          exact hl2

/-- the line that begins at a place, without its end, and where the next one begins -/
def cutP (l : List UInt8) (start : Nat) : List UInt8 × Nat :=
  if Lib.indexByte (l.drop start) 10 < 0 then (l.drop start, l.length)
  else (Lib.trimSuffix ((l.drop start).take (Lib.indexByte (l.drop start) 10).toNat) [13], start + (Lib.indexByte (l.drop start) 10).toNat + 1)

theorem indexByte_bd (l : List UInt8) (c : UInt8) : -1 ≤ Lib.indexByte l c ∧ Lib.indexByte l c < l.length := by
  induction l with
  | nil => simp [Lib.indexByte]
  | cons b l ih =>
    simp only [Lib.indexByte, List.length_cons]
    split
    · omega
    · split
      · omega
      · rename_i h
        have : Lib.indexByte l c ≠ -1 := by simpa using h
        omega

set_option maxHeartbeats 1000000 in
theorem cutLine_any (s : ByteArray) (start : Nat) (hs : s.size ≤ 65536) (h0 : start ≤ s.size) (w : World) :
    Calls Tryz.prog 26 #[.string s, .int .i64 start] w fun e w' => e = .returned (.tuple #[.string (bs (cutP s.data.toList start).1), .int .i64 (cutP s.data.toList start).2]) ∧ w = w' := by
  have hx : (s.extract start s.size).data.toList = s.data.toList.drop start := by
    rw [extract_list, List.take_of_length_le (by rw [List.length_drop, listLen]; omega)]
  have HX := Lib.hid hx
  have HI := Lib.hid (fun W => Tryz.strings_IndexByte (s.extract start s.size) 10 W)
  rw [hx] at HI
  have hbd := indexByte_bd (s.data.toList.drop start) 10
  rw [List.length_drop, listLen] at hbd
  have HC := cutP.eq_1 s.data.toList start
  rw [listLen] at HC
  have e10 : (10 : Int).toNat.toUInt8 = 10 := rfl
  rw [e10] at HI
  generalize cutP s.data.toList start = R at *
  generalize Lib.indexByte (s.data.toList.drop start) 10 = m at *
  clear hx e10
  by_cases hm : m < 0
  · rw [if_pos hm] at HC
    have HR := Lib.hid HC
    clear HC
    go_enter Tryz.func26, Tryz.ntmps26
    go_wp2_with (go_at_call 63; refine (HI.out _).mono ?_; rintro e w' ⟨rfl, rfl⟩)
    go_ret2
    refine ⟨?_, rfl⟩
    rw [HR.out, ← HX.out, bs_of]
    rfl
  · rw [if_neg hm] at HC
    have HR := Lib.hid HC
    clear HC
    obtain ⟨n, rfl⟩ : ∃ n : Nat, m = n := ⟨m.toNat, by omega⟩
    have hx2 : (s.extract start (start + n)).data.toList = (s.data.toList.drop start).take n := by rw [extract_list, Nat.add_sub_cancel_left]
    have HT := Lib.hid (fun W => Tryz.strings_TrimSuffix (s.extract start (start + n)) ⟨#[13]⟩ W (by simp; omega))
    rw [hx2] at HT
    clear hx2
    go_enter Tryz.func26, Tryz.ntmps26
    go_wp2_with (go_at_call 63; refine (HI.out _).mono ?_; rintro e w' ⟨rfl, rfl⟩)
    refine (HT.out _).mono ?_
    rintro e w' ⟨rfl, rfl⟩
    go_wp2
    go_ret2
    refine ⟨?_, rfl⟩
    rw [HR.out]
    simp [bs]
end Go.Proofs.YtodenbimeojgdaaGreatDoor

/-
  The contract of lex.Lex: its tokens, or its first error and that error's place, are what lexP tells, for every text. No conditions.
-/
namespace Go.Proofs.YtodenbimeojgdaaGreatDoor
open Go.RowKit

def closed (l : List UInt8) (toks : List Tk) (o : Bool) : List Tk := if o = true then toks ++ [endTok l.length] else toks
/-- the lines from a place on: the tokens, and the place and the number of an error, or 0, 0 -/
def lexF (l : List UInt8) : Nat → Nat → List Tk → Bool → List Tk × Nat × Nat
  | 0, _, toks, o => (closed l toks o, 0, 0)
  | f + 1, k, toks, o =>
    if l.length ≤ k then (closed l toks o, 0, 0)
    else if (lineP (cutP l k).1 k toks o).err ≠ 0 then ([], (lineP (cutP l k).1 k toks o).place, (lineP (cutP l k).1 k toks o).err)
    else lexF l f (cutP l k).2 (lineP (cutP l k).1 k toks o).toks (lineP (cutP l k).1 k toks o).opened
/-- what a text is -/
def lexP (l : List UInt8) : List Tk × Nat × Nat := if 65536 < l.length then ([], 65536, 3) else lexF l (l.length + 1) 0 [] false

theorem lexF_end {l : List UInt8} {f k : Nat} {toks : List Tk} {o : Bool} (h : l.length ≤ k) : lexF l f k toks o = (closed l toks o, 0, 0) := by
  cases f with
  | zero => rfl
  | succ f => rw [lexF, if_pos h]
theorem lexF_err {l : List UInt8} {f k : Nat} {toks : List Tk} {o : Bool} (hf : l.length < f + k) (h : k < l.length) (he : (lineP (cutP l k).1 k toks o).err ≠ 0) :
    lexF l f k toks o = ([], (lineP (cutP l k).1 k toks o).place, (lineP (cutP l k).1 k toks o).err) := by
  cases f with
  | zero => omega
  | succ f => rw [lexF, if_neg (by omega), if_pos he]
theorem lexF_go {l : List UInt8} {f k : Nat} {toks : List Tk} {o : Bool} (h : k < l.length) (he : (lineP (cutP l k).1 k toks o).err = 0) :
    lexF l (f + 1) k toks o = lexF l f (cutP l k).2 (lineP (cutP l k).1 k toks o).toks (lineP (cutP l k).1 k toks o).opened := by
  rw [lexF, if_neg (by omega), if_neg (by simp [he])]
theorem trimSuffix_le (l t : List UInt8) : (Lib.trimSuffix l t).length ≤ l.length := by
  unfold Lib.trimSuffix
  split
  · rw [List.length_take]; omega
  · exact Nat.le_refl _
theorem cutP_bd (l : List UInt8) (k : Nat) (h : k < l.length) : (cutP l k).1.length + k ≤ (cutP l k).2 ∧ k < (cutP l k).2 ∧ (cutP l k).2 ≤ l.length := by
  have hb := indexByte_bd (l.drop k) 10
  rw [List.length_drop] at hb
  unfold cutP
  split
  · simp only [List.length_drop]; omega
  · have := trimSuffix_le ((l.drop k).take (Lib.indexByte (l.drop k) 10).toNat) [13]
    rw [List.length_take, List.length_drop] at this
    simp only
    omega
theorem bs_size (l : List UInt8) : (bs l).size = l.length := by show (l.toArray).size = _; simp

theorem ownsRow_mono {w : World} {base base' : Nat} {e : TypeId} {size : Nat} {v : Value} {n : Nat} {xs : List Value} (h : w.ownsRow base e size v n xs) (hb : base' ≤ base) : w.ownsRow base' e size v n xs := by
  refine ⟨h.1, ?_⟩
  rcases h.2 with hn | ⟨g, cap, cur, hv, hg, r⟩
  · exact .inl hn
  · exact .inr ⟨g, cap, cur, hv, by omega, r⟩

/-- what Lex hands back: the tokens in memory of its own -/
def Handed (w w' : World) (R : List Tk × Nat × Nat) (e : Ending) : Prop :=
  ∃ v, e = .returned (.tuple #[v, .int .i64 R.2.1, .int .i64 R.2.2]) ∧ w'.ownsRow w.heap.size 77 7 v R.1.length (toksCells R.1) ∧ Below w.heap.size w w'

set_option maxHeartbeats 4000000 in
theorem Lex_any (s : ByteArray) (w : World) :
    Calls Tryz.prog 9 #[.string s] w fun e w' => Handed w w' (lexP s.data.toList) e := by
  have HLEN := Lib.hid (listLen s)
  have HL := lexP.eq_1 s.data.toList
  rw [HLEN.out] at HL
  generalize lexP s.data.toList = R at *
  by_cases hlong : 65536 < s.size
  · rw [if_pos hlong] at HL
    have HR := Lib.hid HL
    clear HL
    go_enter Tryz.func9, Tryz.ntmps9
    go_wp2
    go_ret3
    refine ⟨.slice none 0 0, by rw [HR.out]; rfl, ?_, Below.refl _ _⟩
    rw [HR.out]
    exact World.ownsRow_nil _ _ _ _
  · rw [if_neg hlong] at HL
    have HR0 := Lib.hid HL
    have hs : s.size ≤ 65536 := by omega
    clear HL hlong
    go_enter Tryz.func9, Tryz.ntmps9
    go_wp2_with fail
    refine (starts_any _).mono ?_
    rintro e w1 ⟨rfl, hw1⟩
    have hS1 : StartsAt w1 w.heap.size := by rw [hw1]; exact startsAt_allocs w
    have hB1 : Below w.heap.size w w1 := by rw [hw1]; exact allocs_below _ _
    have hz1 : w1.heap.size = w.heap.size + 32 := by
      rw [hw1, allocs_heap, Array.size_append]
      rfl
    clear hw1
    have hB2 : Below w.heap.size w (w1.alloc (.cells #[.slice (some ⟨w.heap.size + 31, 0, none⟩) 15 15, .slice none 0 0, .bool false] 62)) := hB1.alloc hB1.size _
    have hl0 : LexAt (w1.alloc (.cells #[.slice (some ⟨w.heap.size + 31, 0, none⟩) 15 15, .slice none 0 0, .bool false] 62)) w1.heap.size (w1.heap.size + 1) w.heap.size (.slice none 0 0) [] false :=
      ⟨Blk.new _ _ _, World.ownsRow_nil _ _ _ _, hS1.below ((Below.refl _ _).alloc (Nat.le_refl _) _) (by omega), by omega, by omega, by simp⟩
    generalize hg : w1.heap.size = g at *
    have hg2 : w.heap.size ≤ g := by omega
    clear hB1 hS1 hz1
    go_wp2
    generalize w1.alloc (.cells #[.slice (some ⟨w.heap.size + 31, 0, none⟩) 15 15, .slice none 0 0, .bool false] 62) = W0 at *
    go_loopw [6] (fun i wr => ∃ (k f : Nat) (tk : List Tk) (vv : Value) (o : Bool), k ≤ s.size ∧ i = .int .i64 k ∧ LexAt wr g (g + 1) w.heap.size vv tk o ∧ tk.length ≤ 2 * k ∧ Below w.heap.size w wr ∧ s.size < f + k ∧ Hid (R = lexF s.data.toList f k tk o)) (fun i _ => s.size - (intOf i).toNat)
    case atStart => exact ⟨0, s.data.toList.length + 1, [], _, false, Nat.zero_le _, rfl, hl0, by simp, hB2, by rw [HLEN.out]; omega, by rw [HLEN.out]; exact HR0⟩
    case round =>
      clear HR0 hl0 hB2
      obtain ⟨k, f, tk, vv, o, hk, rfl, h, htk, hbel, hfk, HR⟩ := hrel
      by_cases hlt : k < s.size
      · have hkl : k < s.data.toList.length := by rw [HLEN.out]; exact hlt
        have hcb := cutP_bd s.data.toList k hkl
        rw [HLEN.out] at hcb
        have HCUT := Lib.hid (fun W => cutLine_any s k hs (by omega) W)
        have HE := Lib.hid (fun he => lexF_err (toks := tk) (o := o) (show s.data.toList.length < f + k from by rw [HLEN.out]; exact hfk) hkl he)
        have HG := Lib.hid (fun f he => lexF_go (toks := tk) (o := o) (f := f) hkl he)
        generalize hc : cutP s.data.toList k = c at *
        obtain ⟨line, nx⟩ := c
        clear hc hkl
        simp only at hcb HCUT HE HG
        have HTL := Lib.hid (fun (W : World) (hl : LexAt W g (g + 1) w.heap.size vv tk o) => takeLine_any (bs line) g (g + 1) w.heap.size k vv tk o (by rw [bs_size]; omega) (by omega) (by rw [bs_size]; omega) W hl)
        rw [bs_toList, bs_size] at HTL
        generalize lineP line k tk o = L at *
        go_wp2_with (go_at_call 26; refine (HCUT.out _).mono ?_; rintro e w' ⟨rfl, rfl⟩)
        refine (HTL.out _ h).mono ?_
        rintro e w2 ⟨rfl, ⟨v2, hl2⟩, hlen, hb2⟩
        have hbel2 : Below w.heap.size w w2 := hbel.trans (hb2.mono hg2)
        clear hb2 hbel h
        by_cases he : L.err = 0
        · obtain ⟨f, rfl⟩ : ∃ f', f = f' + 1 := ⟨f - 1, by omega⟩
          have HR' : Hid (R = lexF s.data.toList f nx L.toks L.opened) := by
            show R = _
            rw [HR.out, HG.out f he]
          have he' : ((L.err : Int) == 0) = true := by
            rw [beq_iff_eq]
            omega
          have he'' : ((L.err : Int) != 0) = false := by
            rw [bne_eq_false_iff_eq]
            omega
          clear HE HG HR he
          go_wp2
          go_roundw
          case rel => exact ⟨nx, f, L.toks, v2, L.opened, by omega, rfl, hl2, by omega, hbel2, by omega, HR'⟩
          case measure => simp [intOf]; omega
        · have HR' : Hid (R = ([], L.place, L.err)) := by
            show R = _
            rw [HR.out, HE.out he]
          have he' : ((L.err : Int) == 0) = false := by
            rw [beq_eq_false_iff_ne]
            omega
          have he'' : ((L.err : Int) != 0) = true := by
            rw [bne_iff_ne]
            omega
          clear HE HG HR he
          go_wp2
          go_ret3
          refine ⟨.slice none 0 0, by rw [HR'.out]; rfl, ?_, hbel2⟩
          rw [HR'.out]
          exact World.ownsRow_nil _ _ _ _
      · have HR' : Hid (R = (closed s.data.toList tk o, 0, 0)) := by
          show R = _
          rw [HR.out, lexF_end (by rw [HLEN.out]; omega)]
        have HCL := Lib.hid (closed.eq_1 s.data.toList tk o)
        clear HR
        cases o with
        | true =>
          have HCL' := HCL.out
          rw [if_pos rfl, HLEN.out] at HCL'
          have HCC := Lib.hid HCL'
          clear HCL HCL'
          go_wp2_with fail
          refine (endRule_open g (g + 1) w.heap.size vv tk s.size _ h (by omega)).mono ?_
          rintro e w2 ⟨rfl, ⟨v2, hl2⟩, hb2⟩
          have hbel2 : Below w.heap.size w w2 := hbel.trans (hb2.mono hg2)
          have hc2 := hl2.blk.cell
          go_wp2
          go_ret3
          refine ⟨v2, by rw [HR'.out]; rfl, ?_, hbel2⟩
          rw [HR'.out, HCC.out]
          exact ownsRow_mono hl2.own (by omega)
        | false =>
          have HCL' := HCL.out
          rw [if_neg (by simp)] at HCL'
          have HCC := Lib.hid HCL'
          clear HCL HCL'
          go_wp2_with fail
          refine (endRule_shut g (g + 1) w.heap.size vv tk s.size _ h).mono ?_
          rintro e w2 ⟨rfl, hl2, hb2⟩
          have hbel2 : Below w.heap.size w w2 := hbel.trans (hb2.mono hg2)
          have hc2 := hl2.blk.cell
          go_wp2
          go_ret3
          refine ⟨vv, by rw [HR'.out]; rfl, ?_, hbel2⟩
          rw [HR'.out, HCC.out]
          exact ownsRow_mono hl2.own (by omega)
end Go.Proofs.YtodenbimeojgdaaGreatDoor

/-
  The contracts of frankinglow's Toks and Alike where the two lists are the same (but for places): they answer true. Conditions: the lists as they lie in memory, of at most 200000 tokens.
-/
namespace Go.Proofs.YtodenbimeojgdaaGreatDoor
open Go.RowKit

/-- a slice value whose cells are these tokens -/
def TokRow (w : World) (v : Value) (toks : List Tk) : Prop :=
  ∃ (A : Option Addr) (c : Nat), v = .slice A toks.length c ∧ (0 < toks.length → ∃ g off, A = some ⟨g, off, none⟩ ∧ g < w.heap.size ∧ ∀ j u, (toksCells toks)[j]? = some u → w.cell? ⟨g, off + j, none⟩ = some u)

theorem TokRow.of_own {w : World} {base : Nat} {v : Value} {toks : List Tk} (h : w.ownsRow base 77 7 v toks.length (toksCells toks)) : TokRow w v toks := by
  rcases h.2 with ⟨rfl, h0⟩ | ⟨g, cap, cur, rfl, hg, hh, _⟩
  · exact ⟨none, 0, by rw [h0], fun hp => by omega⟩
  · refine ⟨_, cap, rfl, fun _ => ⟨g, 0, rfl, (Array.getElem?_eq_some_iff.1 hh).1, fun j u hu => ?_⟩⟩
    have := h.cells (g := g) rfl j u hu
    have hadd : (⟨g, 0, none⟩ : Addr).add j = ⟨g, 0 + j, none⟩ := by unfold Addr.add; split <;> simp_all
    rw [hadd] at this
    exact this
theorem TokRow.below {w w' : World} {v : Value} {toks : List Tk} (h : TokRow w v toks) (hb : Below w.heap.size w w') : TokRow w' v toks := by
  obtain ⟨A, c, hv, hA⟩ := h
  refine ⟨A, c, hv, fun hp => ?_⟩
  obtain ⟨g, off, rfl, hg, hc⟩ := hA hp
  exact ⟨g, off, rfl, by have := hb.size; omega, fun j u hu => (hb.cell (p := ⟨g, off + j, none⟩) hg).trans (hc j u hu)⟩

theorem toksCells_at : ∀ (toks : List Tk) (k : Nat) (t : Tk), toks[k]? = some t → ∀ j, j < 7 → (toksCells toks)[k * 7 + j]? = (tokCells t)[j]? := by
  intro toks
  induction toks with
  | nil => intro k t h; simp at h
  | cons a r ih =>
    intro k t h j hj
    have e : toksCells (a :: r) = tokCells a ++ toksCells r := by simp [toksCells]
    have hl : (tokCells a).length = 7 := rfl
    rw [e]
    cases k with
    | zero =>
      have : a = t := by simpa using h
      subst this
      rw [Nat.zero_mul, Nat.zero_add, List.getElem?_append_left (by rw [hl]; exact hj)]
    | succ k =>
      rw [List.getElem?_append_right (by rw [hl]; omega), hl, show (k + 1) * 7 + j - 7 = k * 7 + j from by omega]
      exact ih k t (by simpa using h) j hj

/-- the cells of one token of a row -/
theorem TokRow.at_ {w : World} {A : Option Addr} {n c : Nat} {toks : List Tk} (h : TokRow w (.slice A n c) toks) {k : Nat} {t : Tk} (ht : toks[k]? = some t) :
    ∃ g off, A = some ⟨g, off, none⟩ ∧ g < w.heap.size ∧ w.cell? ⟨g, off + k * 7, none⟩ = some (.int .u8 t.kind) ∧ w.cell? ⟨g, off + k * 7 + 1, none⟩ = some (.int .i64 t.place) ∧ w.cell? ⟨g, off + k * 7 + 2, none⟩ = some (.string (bs t.text)) ∧
      w.cell? ⟨g, off + k * 7 + 3, none⟩ = some (.int .i64 t.mn) ∧ w.cell? ⟨g, off + k * 7 + 4, none⟩ = some (.int .i64 t.mx) ∧ w.cell? ⟨g, off + k * 7 + 5, none⟩ = some (.int .u8 t.lo) ∧ w.cell? ⟨g, off + k * 7 + 6, none⟩ = some (.int .u8 t.hi) := by
  obtain ⟨A', c', hv, hA⟩ := h
  injection hv with h1 h2 h3
  subst h1
  obtain ⟨hk, _⟩ := List.getElem?_eq_some_iff.1 ht
  obtain ⟨g, off, rfl, hg, hc⟩ := hA (by omega)
  have key : ∀ j u, (tokCells t)[j]? = some u → j < 7 → w.cell? ⟨g, off + k * 7 + j, none⟩ = some u := fun j u hu hj => by
    rw [Nat.add_assoc]
    exact hc _ u (by rw [toksCells_at toks k t ht j hj, hu])
  exact ⟨g, off, rfl, hg, key 0 _ rfl (by omega), key 1 _ rfl (by omega), key 2 _ rfl (by omega), key 3 _ rfl (by omega), key 4 _ rfl (by omega), key 5 _ rfl (by omega), key 6 _ rfl (by omega)⟩
theorem TokRow.len {w : World} {v : Value} {toks : List Tk} (h : TokRow w v toks) : ∃ A c, v = .slice A toks.length c := by
  obtain ⟨A, c, hv, _⟩ := h
  exact ⟨A, c, hv⟩
end Go.Proofs.YtodenbimeojgdaaGreatDoor

/-
  Plain facts on tokens: of a text's tokens places rise, and what they are stands there. No conditions.
-/
namespace Go.Proofs.YtodenbimeojgdaaGreatDoor

def signs : List (Int × List UInt8) := [(2, [61]), (3, [61, 47]), (4, [47]), (5, [40]), (6, [41]), (7, [91]), (8, [93]), (11, [37]), (12, [37])]
/-- what stands at a token's place -/
def KindOk (t : Tk) (sg : List UInt8) : Prop :=
  (t.kind = 1 ∧ sg = t.text) ∨ (t.kind = 10 ∧ sg = 34 :: (t.text ++ [34])) ∨
  (t.kind = 9 ∧ (∃ c : UInt8, sg = [c] ∧ timesZ c.toNat = true) ∧ 0 ≤ t.mn ∧ t.mn ≤ 9999 ∧ -1 ≤ t.mx ∧ t.mx ≤ 9999 ∧ (0 ≤ t.mx → t.mn ≤ t.mx)) ∨ (t.kind, sg) ∈ signs
def PieceOk (p : Pc) (r : List UInt8) : Prop := (p.err = 0 → p.tok.kind ≠ 0 → ∃ sg, sg ≠ [] ∧ sg <+: r ∧ KindOk p.tok sg) ∧ (p.err ≠ 0 → p.bad < r.length)

theorem hasPrefix_iff {l t : List UInt8} (h : Lib.hasPrefix l t = true) : t <+: l := List.isPrefixOf_iff_prefix.1 h

theorem digit_bd {n : Int} (h : digitZ n = true) : 0 ≤ digitOfZ n ∧ digitOfZ n ≤ 9 := by
  unfold digitOfZ
  rw [if_pos h]
  simp only [digitZ, Bool.and_eq_true, decide_eq_true_eq] at h
  omega
def pow10 : Nat → Int
  | 0 => 1
  | k + 1 => pow10 k * 10
theorem number_digits : ∀ (l : List UInt8) (a : Int) (k : Nat), k ≤ spanZ digitZ l → 0 ≤ a → 0 ≤ numberFrom 10 a (l.take k) ∧ numberFrom 10 a (l.take k) + 1 ≤ (a + 1) * pow10 k := by
  intro l
  induction l with
  | nil => intro a k hk h0; have : k = 0 := by simpa [spanZ] using hk
           subst this; simp [numberFrom, pow10]; exact h0
  | cons c r ih =>
    intro a k hk h0
    cases k with
    | zero => simp [numberFrom, pow10]; exact h0
    | succ k =>
      simp only [spanZ] at hk
      by_cases hc : digitZ c.toNat = true
      · rw [if_pos hc] at hk
        have hd := digit_bd hc
        have := ih (a * 10 + digitOfZ c.toNat) k (by omega) (by omega)
        simp only [List.take_succ_cons, numberFrom, pow10]
        refine ⟨this.1, Int.le_trans this.2 ?_⟩
        have h10 : 0 ≤ pow10 k := by
          clear this hk ih
          induction k with
          | zero => decide
          | succ k ih => simp only [pow10]; omega
        have hx : a * 10 + digitOfZ c.toNat + 1 ≤ (a + 1) * 10 := by omega
        calc (a * 10 + digitOfZ c.toNat + 1) * pow10 k ≤ ((a + 1) * 10) * pow10 k := Int.mul_le_mul_of_nonneg_right hx h10
          _ = (a + 1) * (pow10 k * 10) := by rw [Int.mul_assoc, Int.mul_comm 10]
      · rw [if_neg hc] at hk; omega
theorem number4 (l : List UInt8) (k : Nat) (hk : k ≤ spanZ digitZ l) (h4 : k ≤ 4) : 0 ≤ numberZ 10 (l.take k) ∧ numberZ 10 (l.take k) ≤ 9999 := by
  have h := number_digits l 0 k hk (by omega)
  have hp : pow10 k ≤ 10000 := by
    clear h hk
    match k, h4 with
    | 0, _ => decide
    | 1, _ => decide
    | 2, _ => decide
    | 3, _ => decide
    | 4, _ => decide
  unfold numberZ
  omega

theorem pos_of_ne {l : List UInt8} (h : l ≠ []) : 0 < l.length := List.length_pos_iff.2 h
theorem first_prefix {l : List UInt8} (h : l ≠ []) : ∃ c : UInt8, [c] <+: l ∧ (c.toNat : Int) = byteZ l 0 := by
  cases l with
  | nil => exact absurd rfl h
  | cons c r => exact ⟨c, ⟨r, rfl⟩, rfl⟩
theorem times_bits (l : List UInt8) (hl : l ≠ []) (h : timesZ (byteZ l 0) = true) (least most : Int) (size : Nat) (h1 : 0 ≤ least) (h2 : least ≤ 9999) (h3 : -1 ≤ most) (h4 : most ≤ 9999) (h5 : 0 ≤ most → least ≤ most) : PieceOk (timesTok least most size) l := by
  obtain ⟨c, hc, hb⟩ := first_prefix hl
  exact ⟨fun _ _ => ⟨[c], by simp, hc, .inr (.inr (.inl ⟨rfl, ⟨c, rfl, by rw [hb]; exact h⟩, h1, h2, h3, h4, h5⟩))⟩, fun h => absurd rfl h⟩
theorem piece_err {p : Pc} {l : List UInt8} (he : p.err ≠ 0) (hb : p.bad < l.length) : PieceOk p l := ⟨fun h => absurd h he, fun _ => hb⟩
theorem piece_times (l : List UInt8) (hl : l ≠ []) (h : timesZ (byteZ l 0) = true) : PieceOk (timesP l) l := by
  have hle := spanZ_le digitZ l
  have hp := pos_of_ne hl
  unfold timesP
  split
  · exact piece_err (by decide) hp
  · rename_i h4
    have hn := number4 l (spanZ digitZ l) (Nat.le_refl _) (by omega)
    split
    · rename_i hst
      have hlt := standsB_lt hst
      have hle2 := spanZ_le digitZ (l.drop (spanZ digitZ l + 1))
      rw [List.length_drop] at hle2
      split
      · rename_i hm
        exact piece_err (by simp) (by show spanZ digitZ l + 1 < l.length; omega)
      · rename_i hm
        have hn2 := number4 (l.drop (spanZ digitZ l + 1)) _ (Nat.le_refl _) (by omega)
        split
        · split
          · exact piece_err (by decide) hp
          · exact times_bits l hl h _ _ _ (by omega) (by omega) (by omega) (by omega) (by omega)
        · exact times_bits l hl h _ _ _ (by omega) (by omega) (by omega) (by omega) (by omega)
    · exact times_bits l hl h _ _ _ (by omega) (by omega) (by omega) (by omega) (by omega)

theorem quote_prefix : ∀ (l : List UInt8) (i : Nat), quoteAt l = some i → (l.take i ++ [34]) <+: l := by
  intro l
  induction l with
  | nil => intro i h; cases h
  | cons c r ih =>
    intro i h
    rw [quoteAt] at h
    split at h
    · rename_i hc
      have hi : 0 = i := Option.some.inj h
      subst hi
      have : c = 34 := by
        have h2 : c.toNat = 34 := by omega
        exact UInt8.toNat_inj.1 h2
      subst this
      exact ⟨r, rfl⟩
    · split at h
      · cases h
      · cases hq : quoteAt r with
        | none => rw [hq] at h; cases h
        | some j =>
          rw [hq] at h
          have hi : j + 1 = i := Option.some.inj h
          subst hi
          obtain ⟨z, hz⟩ := ih j hq
          exact ⟨z, by simp only [List.take_succ_cons, List.cons_append]; rw [hz]⟩
theorem piece_chars (l : List UInt8) (h : Lib.hasPrefix l [34] = true) : PieceOk (charsP l) l := by
  obtain ⟨r, rfl⟩ := hasPrefix_iff h
  simp only [List.cons_append, List.nil_append]
  unfold charsP
  have hd : (34 :: r : List UInt8).drop 1 = r := rfl
  rw [hd]
  cases hq : quoteAt r with
  | none => exact piece_err (by simp [charsOf]) (by simp [charsOf])
  | some i =>
    refine ⟨fun _ _ => ⟨34 :: (r.take i ++ [34]), by simp, ?_, .inr (.inl ⟨rfl, rfl⟩)⟩, fun h => absurd rfl h⟩
    obtain ⟨z, hz⟩ := quote_prefix r i hq
    exact ⟨z, by simp only [List.cons_append]; rw [hz]⟩
theorem piece_values (l : List UInt8) (h : Lib.hasPrefix l [37] = true) : PieceOk (valuesP l) l := by
  have hpre := hasPrefix_iff h
  have hp : 0 < l.length := prefix_le h
  have hw : PieceOk wrongP l := piece_err (by decide) hp
  unfold valuesP
  cases hv : valueZ l 2 (baseZ l) with
  | none => exact hw
  | some ak =>
    obtain ⟨a, k⟩ := ak
    rw [valuesOf]
    split
    · cases hv2 : valueZ l (k + 1) (baseZ l) with
      | none => exact hw
      | some bk =>
        obtain ⟨b, k2⟩ := bk
        rw [rangeOf]
        split
        · exact hw
        · exact ⟨fun _ _ => ⟨[37], by simp, hpre, .inr (.inr (.inr (by simp [signs])))⟩, fun h => absurd rfl h⟩
    · cases hm : moreVals l (baseZ l) (l.length + 1) k [a] with
      | none => exact hw
      | some nk =>
        exact ⟨fun _ _ => ⟨[37], by simp, hpre, .inr (.inr (.inr (by simp [signs, bytesOf])))⟩, fun h => absurd rfl h⟩
def Tells (row : Row) : Prop := ∀ l, l ≠ [] → row.1 l = true → PieceOk (row.2 l) l
theorem tells_sign (kind : Int) (t : List UInt8) (ht : t ≠ []) (hs : (kind, t) ∈ signs) : Tells (signRow kind t) := fun _ _ h =>
  ⟨fun _ _ => ⟨t, ht, hasPrefix_iff h, .inr (.inr (.inr hs))⟩, fun h => absurd rfl h⟩
theorem tells_err (p : List UInt8 → Bool) (er : Nat) (h1 : er ≠ 0) : Tells (p, fun _ => { bad := 0, err := er }) := fun _ hl _ => piece_err h1 (pos_of_ne hl)
theorem tells_table : ∀ row ∈ table, Tells row := by
  intro row h
  simp only [table, List.mem_cons, List.not_mem_nil, or_false] at h
  rcases h with rfl | rfl | rfl | rfl | rfl | rfl | rfl | rfl | rfl | rfl | rfl | rfl | rfl | rfl | rfl
  · exact fun l _ _ => ⟨fun _ h => absurd rfl h, fun h => absurd rfl h⟩
  · exact fun l _ _ => ⟨fun _ h => absurd rfl h, fun h => absurd rfl h⟩
  · intro l hl h
    have hs := spanZ_pos namedZ l hl (named_of_letter h)
    refine ⟨fun _ _ => ⟨l.take (spanZ namedZ l), ?_, List.take_prefix _ _, .inl ⟨rfl, rfl⟩⟩, fun h => absurd rfl h⟩
    intro e
    have := congrArg List.length e
    rw [List.length_take, List.length_nil] at this
    have := pos_of_ne hl
    omega
  · exact tells_sign _ _ (by simp) (by simp [signs])
  · exact tells_sign _ _ (by simp) (by simp [signs])
  · exact tells_sign _ _ (by simp) (by simp [signs])
  · exact tells_sign _ _ (by simp) (by simp [signs])
  · exact tells_sign _ _ (by simp) (by simp [signs])
  · exact tells_sign _ _ (by simp) (by simp [signs])
  · exact tells_sign _ _ (by simp) (by simp [signs])
  · exact fun l hl h => piece_times l hl h
  · exact fun l _ h => piece_chars l h
  · exact fun l _ h => piece_values l h
  · exact tells_err _ _ (by decide)
  · exact tells_err _ _ (by decide)
theorem piece_pick (rows : List Row) (hr : ∀ row ∈ rows, Tells row) (l : List UInt8) (hl : l ≠ []) : PieceOk (pick rows l) l := by
  induction rows with
  | nil => exact piece_err (by simp [pick]) (pos_of_ne hl)
  | cons row rows ih =>
    obtain ⟨p, r⟩ := row
    rw [pick]
    split
    · exact hr (p, r) (by simp) l hl (by assumption)
    · exact ih fun row h => hr row (by simp [h])
theorem piece_read (l : List UInt8) (hl : l ≠ []) : PieceOk (readP l) l := piece_pick table tells_table l hl
theorem read_letter (l : List UInt8) (hl : l ≠ []) (h : letterZ (byteZ l 0) = true) : readP l = nameP l := by
  cases l with
  | nil => exact absurd rfl hl
  | cons c r =>
    rw [byteZ_cons] at h
    have hb : blankZ c.toNat = false := by
      simp only [letterZ, Bool.or_eq_true, Bool.and_eq_true, decide_eq_true_eq] at h
      simp only [blankZ, Bool.or_eq_false_iff, beq_eq_false_iff_ne]
      omega
    have hr : Lib.hasPrefix (c :: r) [59] = false := by
      simp only [Lib.hasPrefix, List.isPrefixOf, Bool.and_eq_false_iff, beq_eq_false_iff_ne]
      left
      intro e
      rw [← e] at h
      revert h
      decide
    unfold readP table
    rw [pick, if_neg (by rw [byteZ_cons, hb]; simp), pick, if_neg (by rw [hr]; simp), pick, if_pos (by rw [byteZ_cons]; exact h)]

/-- where the next token may be at the earliest, and whether it must be a name -/
def after (toks : List Tk) : Int × Bool :=
  match toks.getLast? with
  | none => (0, true)
  | some t => if t.kind = 13 then (t.place, true) else (t.place + 1, false)
def TokOk (l : List UInt8) (t : Tk) : Prop := ∃ p : Nat, t.place = p ∧ p ≤ l.length ∧ (t.kind = 13 ∨ ∃ sg, sg ≠ [] ∧ sg <+: l.drop p ∧ KindOk t sg)
def Rises (l : List UInt8) (toks : List Tk) : Prop := ∀ (i : Nat) (t : Tk), toks[i]? = some t → (after (toks.take i)).1 ≤ t.place ∧ ((after (toks.take i)).2 = true → t.kind = 1) ∧ TokOk l t

theorem after_snoc (toks : List Tk) (t : Tk) : after (toks ++ [t]) = if t.kind = 13 then (t.place, true) else (t.place + 1, false) := by simp [after]
theorem rises_nil (l : List UInt8) : Rises l [] := fun i t h => by simp at h
theorem rises_snoc {l : List UInt8} {toks : List Tk} {t : Tk} (h : Rises l toks) (h1 : (after toks).1 ≤ t.place) (h2 : (after toks).2 = true → t.kind = 1) (h3 : TokOk l t) : Rises l (toks ++ [t]) := by
  intro i u hu
  rcases Nat.lt_trichotomy i toks.length with hi | hi | hi
  · rw [List.getElem?_append_left hi] at hu
    rw [List.take_append_of_le_length (by omega)]
    exact h i u hu
  · subst hi
    rw [List.getElem?_append_right (Nat.le_refl _), Nat.sub_self] at hu
    have : t = u := by simpa using hu
    subst this
    rw [List.take_append_of_le_length (Nat.le_refl _), List.take_length]
    exact ⟨h1, h2, h3⟩
  · rw [List.getElem?_append_right (by omega)] at hu
    have : i - toks.length ≠ 0 := by omega
    obtain ⟨n, hn⟩ := Nat.exists_eq_succ_of_ne_zero this
    rw [hn] at hu
    simp at hu

theorem prefix_drop {x ln m : List UInt8} {a : Nat} (h1 : x <+: ln.drop a) (h2 : ln <+: m) (ha : a ≤ ln.length) : x <+: m.drop a := by
  obtain ⟨z, rfl⟩ := h2
  rw [List.drop_append_of_le_length ha]
  exact h1.trans (List.prefix_append _ _)

theorem tokens_rise (l ln : List UInt8) (start : Nat) (hln : ln <+: l.drop start) (hst : start ≤ l.length) : ∀ (f at_ : Nat) (toks : List Tk), ln.length < f + at_ → at_ ≤ ln.length → Rises l toks → (after toks).1 ≤ (start : Int) + at_ →
    ((after toks).2 = true → at_ = 0 ∧ ln ≠ [] ∧ letterZ (byteZ ln 0) = true) →
    ((tokensF ln start f at_ toks).2.2 = 0 → (tokensF ln start f at_ toks).2.1 = 0 ∧ Rises l (tokensF ln start f at_ toks).1 ∧ (after (tokensF ln start f at_ toks).1).1 ≤ (start : Int) + ln.length ∧ (after (tokensF ln start f at_ toks).1).2 = false) ∧
    ((tokensF ln start f at_ toks).2.2 ≠ 0 → (tokensF ln start f at_ toks).2.1 < start + ln.length) := by
  intro f
  induction f with
  | zero => intro at_ toks hf hat; omega
  | succ f ih =>
    intro at_ toks hf hat hR ha hnm
    by_cases hend : ln.length ≤ at_
    · rw [tokensF_end hend]
      refine ⟨fun _ => ⟨rfl, hR, by show (after toks).1 ≤ _; omega, ?_⟩, fun h => absurd rfl h⟩
      show (after toks).2 = false
      cases hb : (after toks).2 with
      | false => rfl
      | true =>
        obtain ⟨h0, hne, _⟩ := hnm hb
        have := pos_of_ne hne
        omega
    · have hlt : at_ < ln.length := by omega
      have hne := drop_ne hlt
      have hfit := fits_read _ hne
      have hpo := piece_read _ hne
      rw [Fits, List.length_drop] at hfit
      by_cases he : (readP (ln.drop at_)).err = 0
      · rw [tokensF_go hlt he]
        have hsz := hfit.2.1 he
        by_cases hk : (readP (ln.drop at_)).tok.kind ≠ 0
        · rw [if_pos hk]
          obtain ⟨sg, hsg, hpre, hkd⟩ := hpo.1 he hk
          have hkind13 : ({ (readP (ln.drop at_)).tok with place := (start : Int) + at_ } : Tk).kind ≠ 13 := by
            show (readP (ln.drop at_)).tok.kind ≠ 13
            rcases hkd with h | h | h | h
            · omega
            · omega
            · omega
            · simp only [signs, List.mem_cons, Prod.mk.injEq, List.not_mem_nil, or_false] at h
              omega
          refine ih _ _ (by omega) (by omega) (rises_snoc hR (by show (after toks).1 ≤ (start : Int) + at_; exact ha) ?_ ?_) ?_ ?_
          · intro hb
            obtain ⟨h0, hne2, hlet⟩ := hnm hb
            subst h0
            show (readP (ln.drop 0)).tok.kind = 1
            rw [List.drop_zero, read_letter ln hne2 hlet]
            rfl
          · refine ⟨start + at_, by simp, ?_, .inr ⟨sg, hsg, ?_, hkd⟩⟩
            · obtain ⟨z, hz⟩ := hln
              have := congrArg List.length hz
              rw [List.length_append, List.length_drop] at this
              omega
            · have := prefix_drop hpre hln (by omega)
              rwa [List.drop_drop] at this
          · rw [after_snoc, if_neg hkind13]
            show (start : Int) + at_ + 1 ≤ _
            omega
          · rw [after_snoc, if_neg hkind13]
            intro h
            cases h
        · rw [if_neg hk]
          refine ih _ _ (by omega) (by omega) hR (by omega) ?_
          intro hb
          obtain ⟨h0, hne2, hlet⟩ := hnm hb
          subst h0
          exfalso
          apply hk
          rw [List.drop_zero, read_letter ln hne2 hlet]
          simp [nameP]
      · rw [tokensF_err (by omega) hlt he]
        refine ⟨fun h => absurd h he, fun _ => ?_⟩
        have := hpo.2 he
        rw [List.length_drop] at this
        show start + at_ + _ < _
        omega

theorem cut_prefix (l : List UInt8) (k : Nat) : (cutP l k).1 <+: l.drop k := by
  unfold cutP
  split
  · exact List.prefix_refl _
  · unfold Lib.trimSuffix
    split
    · exact (List.take_prefix _ _).trans (List.take_prefix _ _)
    · exact List.take_prefix _ _

theorem idle_ne {l : List UInt8} (h : idleB l = false) : l ≠ [] := by
  intro e
  rw [e] at h
  cases h

theorem lex_rises (l : List UInt8) : ∀ (f k : Nat) (toks : List Tk) (o : Bool), l.length < f + k → k ≤ l.length → Rises l toks → (after toks).1 ≤ k → (o = false → toks = []) → (o = true → (after toks).2 = false) →
    ((lexF l f k toks o).2.2 = 0 → (lexF l f k toks o).2.1 = 0 ∧ Rises l (lexF l f k toks o).1 ∧ ((lexF l f k toks o).1 = [] ∨ ∃ ts, (lexF l f k toks o).1 = ts ++ [endTok l.length])) ∧
    ((lexF l f k toks o).2.2 ≠ 0 → (lexF l f k toks o).1 = [] ∧ (lexF l f k toks o).2.1 < l.length) := by
  intro f
  induction f with
  | zero => intro k toks o hf hk; omega
  | succ f ih =>
    intro k toks o hf hk hR ha ho1 ho2
    by_cases hend : l.length ≤ k
    · rw [lexF_end hend]
      refine ⟨fun _ => ⟨rfl, ?_⟩, fun h => absurd rfl h⟩
      unfold closed
      cases o with
      | false =>
        have := ho1 rfl
        subst this
        exact ⟨rises_nil l, .inl rfl⟩
      | true =>
        rw [if_pos rfl]
        refine ⟨rises_snoc hR (by show (after toks).1 ≤ (l.length : Int); omega) (fun h => by rw [ho2 rfl] at h; cases h) ⟨l.length, rfl, Nat.le_refl _, .inl rfl⟩, .inr ⟨toks, rfl⟩⟩
    · have hlt : k < l.length := by omega
      have hcb := cutP_bd l k hlt
      have hpre := cut_prefix l k
      have key : ∀ (L : Ln), lineP (cutP l k).1 k toks o = L → (L.err = 0 → Rises l L.toks ∧ (after L.toks).1 ≤ ((cutP l k).2 : Int) ∧ (L.opened = false → L.toks = []) ∧ (L.opened = true → (after L.toks).2 = false)) ∧ (L.err ≠ 0 → L.place < l.length) := by
        intro L hL
        generalize (cutP l k).1 = ln at *
        generalize (cutP l k).2 = nx at *
        unfold lineP at hL
        cases hid : idleB ln with
        | true =>
          rw [if_pos hid] at hL
          subst hL
          exact ⟨fun _ => ⟨hR, by show (after toks).1 ≤ _; omega, ho1, ho2⟩, fun h => absurd rfl h⟩
        | false =>
          have hne := idle_ne hid
          rw [if_neg (by simp [hid])] at hL
          cases hlet : letterZ (byteZ ln 0) with
          | true =>
            rw [if_pos hlet] at hL
            have hT := tokens_rise l ln k hpre (by omega) (ln.length + 1) 0 (if o = true then toks ++ [endTok k] else toks) (by omega) (by omega)
              (by
                cases o with
                | true => exact rises_snoc hR (by show (after toks).1 ≤ (k : Int); exact ha) (fun h => by rw [ho2 rfl] at h; cases h) ⟨k, rfl, by omega, .inl rfl⟩
                | false => exact hR)
              (by
                cases o with
                | true => rw [if_pos rfl, after_snoc, if_pos (by rfl)]; show (k : Int) ≤ _; omega
                | false => rw [if_neg (by simp)]; omega)
              (fun _ => ⟨rfl, hne, hlet⟩)
            subst hL
            refine ⟨fun he => ?_, fun he => ?_⟩
            · obtain ⟨_, h2, h3, h4⟩ := hT.1 he
              exact ⟨h2, (by show (after (tokensF ln k (ln.length + 1) 0 _).1).1 ≤ _; omega), (fun h => by cases h), fun _ => h4⟩
            · have := hT.2 he
              show (tokensP ln k _).2.1 < _
              unfold tokensP
              omega
          | false =>
            rw [if_neg (by simp [hlet])] at hL
            cases hbo : (blankZ (byteZ ln 0) && o) with
            | false =>
              rw [if_neg (by simp [hbo])] at hL
              subst hL
              exact ⟨(fun h => by cases h), fun _ => hlt⟩
            | true =>
              rw [if_pos hbo] at hL
              have hot : o = true := by
                cases o with
                | true => rfl
                | false => simp at hbo
              subst hot
              have hT := tokens_rise l ln k hpre (by omega) (ln.length + 1) 0 toks (by omega) (by omega) hR (by omega) (fun h => by rw [ho2 rfl] at h; cases h)
              subst hL
              refine ⟨fun he => ?_, fun he => ?_⟩
              · obtain ⟨_, h2, h3, h4⟩ := hT.1 he
                exact ⟨h2, (by show (after (tokensF ln k (ln.length + 1) 0 _).1).1 ≤ _; omega), (fun h => by cases h), fun _ => h4⟩
              · have := hT.2 he
                show (tokensP ln k _).2.1 < _
                unfold tokensP
                omega
      obtain ⟨k1, k2⟩ := key _ rfl
      by_cases he : (lineP (cutP l k).1 k toks o).err = 0
      · rw [lexF_go hlt he]
        obtain ⟨a1, a2, a3, a4⟩ := k1 he
        exact ih _ _ _ (by omega) (by omega) a1 a2 a3 a4
      · rw [lexF_err (by omega) hlt he]
        exact ⟨fun h => absurd h he, fun _ => ⟨rfl, k2 he⟩⟩

theorem tokens_len (ln : List UInt8) (start : Nat) : ∀ (f at_ : Nat) (toks : List Tk), at_ ≤ ln.length → (tokensF ln start f at_ toks).1.length ≤ toks.length + (ln.length - at_) := by
  intro f
  induction f with
  | zero => intro at_ toks _; show toks.length ≤ _; omega
  | succ f ih =>
    intro at_ toks hat
    by_cases hend : ln.length ≤ at_
    · rw [tokensF_end hend]; show toks.length ≤ _; omega
    · have hlt : at_ < ln.length := by omega
      have hfit := fits_read _ (drop_ne hlt)
      rw [Fits, List.length_drop] at hfit
      by_cases he : (readP (ln.drop at_)).err = 0
      · rw [tokensF_go hlt he]
        have hsz := hfit.2.1 he
        split
        · refine Nat.le_trans (ih _ _ (by omega)) ?_
          rw [List.length_append, List.length_singleton]
          omega
        · refine Nat.le_trans (ih _ _ (by omega)) ?_
          omega
      · rw [tokensF, if_neg (by omega), if_pos he]
        show toks.length ≤ _
        omega
theorem line_len (ln : List UInt8) (k : Nat) (toks : List Tk) (o : Bool) : (lineP ln k toks o).toks.length ≤ toks.length + 1 + ln.length := by
  have h := fun tk => tokens_len ln k (ln.length + 1) 0 tk (Nat.zero_le _)
  unfold lineP
  split
  · show toks.length ≤ _; omega
  · split
    · have := h (if o = true then toks ++ [endTok k] else toks)
      have e : (if o = true then toks ++ [endTok k] else toks).length ≤ toks.length + 1 := by
        split
        · simp
        · omega
      show (tokensF ln k (ln.length + 1) 0 _).1.length ≤ _
      omega
    · split
      · have := h toks
        show (tokensF ln k (ln.length + 1) 0 _).1.length ≤ _
        omega
      · show toks.length ≤ _; omega
theorem lexF_len (l : List UInt8) : ∀ (f k : Nat) (toks : List Tk) (o : Bool), k ≤ l.length → (lexF l f k toks o).1.length ≤ toks.length + 2 * (l.length - k) + 1 := by
  intro f
  have hcl : ∀ (toks : List Tk) (o : Bool), (closed l toks o).length ≤ toks.length + 1 := by
    intro toks o
    unfold closed
    split
    · simp
    · omega
  induction f with
  | zero => intro k toks o _; have := hcl toks o; show (closed l toks o).length ≤ _; omega
  | succ f ih =>
    intro k toks o hk
    by_cases hend : l.length ≤ k
    · rw [lexF_end hend]; have := hcl toks o; show (closed l toks o).length ≤ _; omega
    · have hlt : k < l.length := by omega
      have hcb := cutP_bd l k hlt
      have hl := line_len (cutP l k).1 k toks o
      by_cases he : (lineP (cutP l k).1 k toks o).err = 0
      · rw [lexF_go hlt he]
        have := ih (cutP l k).2 (lineP (cutP l k).1 k toks o).toks (lineP (cutP l k).1 k toks o).opened (by omega)
        omega
      · rw [lexF, if_neg (by omega), if_pos he]
        show 0 ≤ _
        omega
theorem lexP_len (l : List UInt8) : (lexP l).1.length ≤ 2 * l.length + 1 := by
  unfold lexP
  split
  · show 0 ≤ _; omega
  · have := lexF_len l (l.length + 1) 0 [] false (Nat.zero_le _)
    simpa using this

theorem lex_whole (l : List UInt8) (h : l.length ≤ 65536) :
    ((lexP l).2.2 = 0 → (lexP l).2.1 = 0 ∧ Rises l (lexP l).1 ∧ ((lexP l).1 = [] ∨ ∃ ts, (lexP l).1 = ts ++ [endTok l.length])) ∧ ((lexP l).2.2 ≠ 0 → (lexP l).1 = [] ∧ (lexP l).2.1 < l.length) := by
  unfold lexP
  rw [if_neg (by omega)]
  exact lex_rises l (l.length + 1) 0 [] false (by omega) (by omega) (rises_nil l) (by decide) (fun _ => rfl) (fun h => by cases h)
end Go.Proofs.YtodenbimeojgdaaGreatDoor
