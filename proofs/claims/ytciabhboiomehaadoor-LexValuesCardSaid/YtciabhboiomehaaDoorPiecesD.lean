/-
  The contract of lex.readChars: what it answers for every text. Conditions: a text of 1 to 65536 bytes.
-/
import Derived.Test.YtciabhboiomehaaDoorPiecesC
namespace Go.Proofs.YtciabhboiomehaaDoor
open Go.RowKit

/-- the place of the quote that closes, if there is one, and nothing stands ahead of it that may not -/
def quoteAt : List UInt8 → Option Nat
  | [] => none
  | c :: r => if (c.toNat : Int) = 34 then some 0 else if (c.toNat : Int) < 32 ∨ 126 < (c.toNat : Int) then none else (quoteAt r).map (· + 1)

def charsOf (l : List UInt8) : Option Nat → Pc
  | some i => { tok := { kind := 10, text := l.take i }, size := i + 2 }
  | none => { bad := 0, err := 14 }
def charsP (l : List UInt8) : Pc := charsOf (l.drop 1) (quoteAt (l.drop 1))

theorem drop_byte (l : List UInt8) (k : Nat) (h : k < l.length) : ∃ c, l.drop k = c :: l.drop (k + 1) ∧ (c.toNat : Int) = byteZ l k := by
  refine ⟨l[k], List.drop_eq_getElem_cons h, ?_⟩
  unfold byteZ
  rw [List.getD_eq_getElem?_getD, List.getElem?_eq_getElem h]
  rfl
theorem quoteAt_go (l : List UInt8) (k : Nat) (h : k < l.length) (h1 : byteZ l k ≠ 34) (h2 : 32 ≤ byteZ l k) (h3 : byteZ l k ≤ 126)
    (hq : quoteAt l = (quoteAt (l.drop k)).map (· + k)) : quoteAt l = (quoteAt (l.drop (k + 1))).map (· + (k + 1)) := by
  obtain ⟨c, hc, hb⟩ := drop_byte l k h
  rw [hq, hc, quoteAt, if_neg (by omega), if_neg (by omega), Option.map_map]
  congr 1
  funext x
  simp only [Function.comp]
  omega
theorem quoteAt_yes (l : List UInt8) (k : Nat) (h : k < l.length) (h1 : byteZ l k = 34)
    (hq : quoteAt l = (quoteAt (l.drop k)).map (· + k)) : quoteAt l = some k := by
  obtain ⟨c, hc, hb⟩ := drop_byte l k h
  rw [hq, hc, quoteAt, if_pos (by omega)]
  simp
theorem quoteAt_no (l : List UInt8) (k : Nat) (h : k < l.length) (h1 : byteZ l k < 32 ∨ 126 < byteZ l k)
    (hq : quoteAt l = (quoteAt (l.drop k)).map (· + k)) : quoteAt l = none := by
  obtain ⟨c, hc, hb⟩ := drop_byte l k h
  rw [hq, hc, quoteAt, if_neg (by omega), if_pos (by omega)]
  simp
theorem quoteAt_end (l : List UInt8) (k : Nat) (h : l.length ≤ k)
    (hq : quoteAt l = (quoteAt (l.drop k)).map (· + k)) : quoteAt l = none := by
  rw [hq, List.drop_eq_nil_of_le h]
  rfl

theorem bcellB {B : Nat} {W w1 : World} (hb : Below B W w1) : (∀ b o, b < B → w1.cell? ⟨b, o, none⟩ = W.cell? ⟨b, o, none⟩) ∧ (∀ b o, b < B → w1.frozen? ⟨b, o, none⟩ = W.frozen? ⟨b, o, none⟩) :=
  ⟨fun b o h => hb.cell (p := ⟨b, o, none⟩) h, fun b o h => hb.frozen (p := ⟨b, o, none⟩) h⟩
theorem iterBelow (W : World) (I : ByteArray) (k : Nat) : Below W.heap.size W (W.iter I k) := (Below.refl _ _).alloc (Nat.le_refl _) _
theorem iterSize (W : World) (I : ByteArray) (k : Nat) : (W.iter I k).heap.size = W.heap.size + 1 := by simp [World.iter]

set_option maxRecDepth 100000 in
set_option maxHeartbeats 2000000 in
theorem readChars_any (s : ByteArray) (hs : s.size ≤ 65536) (h1 : 1 ≤ s.size) (w : World) :
    Calls Tryd.prog 44 #[.string s] w fun e w' => e = .returned (pieceV (charsP s.data.toList)) ∧ Below w.heap.size w w' := by
  have hx : (s.extract 1 s.size).data.toList = s.data.toList.drop 1 := by
    rw [extract_list, List.take_of_length_le (by rw [List.length_drop, listLen]; omega)]
  have HP := Lib.hid (charsP.eq_1 s.data.toList)
  rw [← hx] at HP
  have hIs : (s.extract 1 s.size).size ≤ 65535 := by simp; omega
  generalize charsP s.data.toList = P at *
  go_enter Tryd.func44, Tryd.ntmps44
  go_wp2
  generalize s.extract 1 s.size = I at *
  clear hx
  have hZs : (w.alloc zeroPiece).heap.size = w.heap.size + 1 := by simp
  go_loopw [] (fun wr => ∃ k : Nat, k ≤ I.size ∧ wr = (w.alloc zeroPiece).iter I k ∧ Hid (quoteAt I.data.toList = (quoteAt (I.data.toList.drop k)).map (· + k))) (fun wr => I.size - wr.iterPos (w.alloc zeroPiece).heap.size)
  case atStart => exact ⟨0, Nat.zero_le _, rfl, by show _ = _; simp⟩
  case round =>
    obtain ⟨k, hk, rfl, HQ⟩ := hrel
    by_cases hlt : k < I.size
    · have hlt' : k < I.data.toList.length := by rw [listLen]; exact hlt
      have HB := Lib.hid (byteZ_at I k hlt)
      have hlo := byteZ_lo I.data.toList k
      have hhi := byteZ_hi I.data.toList k
      by_cases hasc : byteZ I.data.toList k < 128
      · have hnx := fun ty => run_next_ascii (P := Tryd.prog) (w.alloc zeroPiece) I k ty hlt (by have := HB.out; omega)
        simp only [hZs, HB.out] at hnx
        by_cases h34 : byteZ I.data.toList k = 34
        · simp only [h34] at hnx
          have HY := Lib.hid (quoteAt_yes I.data.toList k hlt' h34 HQ.out)
          clear HQ h34 hasc hlo hhi HB
          go_wp2_with fail
          refine (clone_any _ _ (by simp; omega)).mono ?_
          rintro e w1 ⟨rfl, hb⟩
          have hB : Below (w.heap.size + 1) (w.alloc zeroPiece) w1 := ((iterBelow (w.alloc zeroPiece) I (k + 1)).mono (by simp)).trans (hb.mono (by rw [iterSize]; simp))
          obtain ⟨hc, hf⟩ := bcellB hB
          unfold zeroPiece at hc hf
          rw [extract_bs, List.drop_zero, Nat.sub_zero]
          go_wp2
          refine bodyPost_ret (v := pieceV { tok := { kind := 10, text := I.data.toList.take k }, size := k + 2 }) ?_ rfl ⟨by rw [HP.out, HY.out]; rfl, ?_⟩
          · simp [results, Tryd.results44, go_sem, hc]
            rfl
          · have h1 : Below w.heap.size w w1 := ((Below.refl _ _).alloc (Nat.le_refl _) _).trans (hB.mono (by omega))
            iterate 10 refine Below.setCell ?_ (by simp) _
            exact h1
        · by_cases hok : 32 ≤ byteZ I.data.toList k ∧ byteZ I.data.toList k ≤ 126
          · obtain ⟨ho1, ho2⟩ := hok
            have HQ2 := Lib.hid (quoteAt_go I.data.toList k hlt' h34 ho1 ho2 HQ.out)
            have h34b : (byteZ I.data.toList k == 34) = false := by simpa using h34
            clear HQ h34 HB hasc hlo hhi
            go_wp2
            go_roundw
            case rel => exact ⟨k + 1, by omega, rfl, HQ2⟩
            case measure =>
              rw [World.iterPos_iter, World.iterPos_iter]
              omega
          · have hbad : byteZ I.data.toList k < 32 ∨ 126 < byteZ I.data.toList k := by omega
            have HY := Lib.hid (quoteAt_no I.data.toList k hlt' hbad HQ.out)
            have h34b : (byteZ I.data.toList k == 34) = false := by simpa using h34
            clear HQ h34 HB hok
            rcases hbad with hb1 | hb1
            · go_wp2_with fail
              refine (fault_any 0 14 _).mono ?_
              rintro e w1 ⟨rfl, hb⟩
              have hB : Below (w.heap.size + 1) (w.alloc zeroPiece) w1 := ((iterBelow (w.alloc zeroPiece) I (k + 1)).mono (by simp)).trans (hb.mono (by rw [iterSize]; simp))
              obtain ⟨hc, hf⟩ := bcellB hB
              unfold zeroPiece at hc hf
              unfold pieceV
              go_wp2
              refine bodyPost_ret (v := pieceV { bad := 0, err := 14 }) ?_ rfl ⟨by rw [HP.out, HY.out]; rfl, ?_⟩
              · simp [results, Tryd.results44, go_sem, hc]
                rfl
              · have h1 : Below w.heap.size w w1 := ((Below.refl _ _).alloc (Nat.le_refl _) _).trans (hB.mono (by omega))
                iterate 10 refine Below.setCell ?_ (by simp) _
                exact h1
            · go_wp2_with fail
              refine (fault_any 0 14 _).mono ?_
              rintro e w1 ⟨rfl, hb⟩
              have hB : Below (w.heap.size + 1) (w.alloc zeroPiece) w1 := ((iterBelow (w.alloc zeroPiece) I (k + 1)).mono (by simp)).trans (hb.mono (by rw [iterSize]; simp))
              obtain ⟨hc, hf⟩ := bcellB hB
              unfold zeroPiece at hc hf
              unfold pieceV
              go_wp2
              refine bodyPost_ret (v := pieceV { bad := 0, err := 14 }) ?_ rfl ⟨by rw [HP.out, HY.out]; rfl, ?_⟩
              · simp [results, Tryd.results44, go_sem, hc]
                rfl
              · have h1 : Below w.heap.size w w1 := ((Below.refl _ _).alloc (Nat.le_refl _) _).trans (hB.mono (by omega))
                iterate 10 refine Below.setCell ?_ (by simp) _
                exact h1
      · have hbad : byteZ I.data.toList k < 32 ∨ 126 < byteZ I.data.toList k := by omega
        have HY := Lib.hid (quoteAt_no I.data.toList k hlt' hbad HQ.out)
        have hdec := decode_high I k hlt (by have := HB.out; omega)
        have hdl := decode_le I k
        have hnx := fun ty => run_next_any (P := Tryd.prog) (w.alloc zeroPiece) I k ty hlt
        simp only [hZs] at hnx
        generalize Utf8.decode I k = d at *
        obtain ⟨r, sz⟩ := d
        simp only at hnx hdec hdl
        have hr1 : (126 : Int) < (r : Int) := by omega
        have hr2 : (32 : Int) ≤ (r : Int) := by omega
        have h34b : ((r : Int) == 34) = false := by
          rw [beq_eq_false_iff_ne]
          omega
        clear HQ HB hasc hlo hhi hbad hdec
        go_wp2_with fail
        refine (fault_any 0 14 _).mono ?_
        rintro e w1 ⟨rfl, hb⟩
        have hB : Below (w.heap.size + 1) (w.alloc zeroPiece) w1 := ((iterBelow (w.alloc zeroPiece) I (k + sz)).mono (by simp)).trans (hb.mono (by rw [iterSize]; simp))
        obtain ⟨hc, hf⟩ := bcellB hB
        unfold zeroPiece at hc hf
        unfold pieceV
        go_wp2
        refine bodyPost_ret (v := pieceV { bad := 0, err := 14 }) ?_ rfl ⟨by rw [HP.out, HY.out]; rfl, ?_⟩
        · simp [results, Tryd.results44, go_sem, hc]
          rfl
        · have h1 : Below w.heap.size w w1 := ((Below.refl _ _).alloc (Nat.le_refl _) _).trans (hB.mono (by omega))
          iterate 10 refine Below.setCell ?_ (by simp) _
          exact h1
    · have HY := Lib.hid (quoteAt_end I.data.toList k (by rw [listLen]; omega) HQ.out)
      have hnx := fun ty => run_next_end (P := Tryd.prog) (w.alloc zeroPiece) I k ty hlt
      simp only [hZs] at hnx
      clear HQ
      go_wp2_with fail
      refine (fault_any 0 14 _).mono ?_
      rintro e w1 ⟨rfl, hb⟩
      have hB : Below (w.heap.size + 1) (w.alloc zeroPiece) w1 := ((iterBelow (w.alloc zeroPiece) I k).mono (by simp)).trans (hb.mono (by rw [iterSize]; simp))
      obtain ⟨hc, hf⟩ := bcellB hB
      unfold zeroPiece at hc hf
      unfold pieceV
      go_wp2
      refine bodyPost_ret (v := pieceV { bad := 0, err := 14 }) ?_ rfl ⟨by rw [HP.out, HY.out]; rfl, ?_⟩
      · simp [results, Tryd.results44, go_sem, hc]
        rfl
      · have h1 : Below w.heap.size w w1 := ((Below.refl _ _).alloc (Nat.le_refl _) _).trans (hB.mono (by omega))
        iterate 10 refine Below.setCell ?_ (by simp) _
        exact h1
end Go.Proofs.YtciabhboiomehaaDoor
