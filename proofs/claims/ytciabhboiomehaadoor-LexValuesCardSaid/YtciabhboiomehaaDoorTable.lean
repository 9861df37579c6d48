/-
  The contract of lex.readPiece: the first row of the table of tokens that fits counts. Conditions: a text of 1 to 65536 bytes; the lexer's table as starts lays it.
-/
import Derived.Test.YtciabhboiomehaaDoorStarts
namespace Go.Proofs.YtciabhboiomehaaDoor
open Go.RowKit

abbrev Row := (List UInt8 → Bool) × (List UInt8 → Pc)
def signRow (kind : Int) (t : List UInt8) : Row := (fun l => Lib.hasPrefix l t, fun _ => { tok := { kind := kind }, size := t.length })
def nameP (l : List UInt8) : Pc := { tok := { kind := 1, text := l.take (spanZ namedZ l) }, size := spanZ namedZ l }
def table : List Row :=
  [(fun l => blankZ (byteZ l 0), fun l => { size := spanZ blankZ l }), (fun l => Lib.hasPrefix l [59], fun l => { size := l.length }), (fun l => letterZ (byteZ l 0), nameP),
   signRow 3 [61, 47], signRow 2 [61], signRow 4 [47], signRow 5 [40], signRow 6 [41], signRow 7 [91], signRow 8 [93],
   (fun l => timesZ (byteZ l 0), timesP), (fun l => Lib.hasPrefix l [34], charsP), (fun l => Lib.hasPrefix l [37], valuesP),
   (fun l => Lib.hasPrefix l [60], fun _ => { bad := 0, err := 16 }), (fun l => Lib.hasPrefix l [], fun _ => { bad := 0, err := 11 })]
def pick : List Row → List UInt8 → Pc
  | [], _ => { bad := 0, err := 11 }
  | (p, r) :: t, l => if p l = true then r l else pick t l
/-- what stands first in a text -/
def readP (l : List UInt8) : Pc := pick table l

def StartsAt (W : World) (N : Nat) : Prop := ∀ i o, (startObjs N)[i]? = some o → W.heap[N + i]? = some o
theorem StartsAt.below {W W' : World} {N B : Nat} (h : StartsAt W N) (hb : Below B W W') (hB : N + 32 ≤ B) : StartsAt W' N := fun i o hi => by
  have hl : i < 32 := (List.getElem?_eq_some_iff.1 hi).1
  rw [hb.block _ (by omega)]
  exact h i o hi
theorem startsAt_allocs (w : World) : StartsAt (allocs w (startObjs w.heap.size)) w.heap.size := fun i o hi => by
  have hl : i < 32 := (List.getElem?_eq_some_iff.1 hi).1
  rw [allocs_heap, Array.getElem?_append_right (by omega), Nat.add_sub_cancel_left]
  simpa using hi

def BeginsOk (N : Nat) (bv : Value) (p : List UInt8 → Bool) : Prop := ∃ f c, bv = .func (.func f) #[] #[c] ∧ (∀ (args : Array Value) (w : World), (callFunc f args).run Tryd.prog w = .ok (.enter f args) w) ∧
  ∀ (s : ByteArray) (W : World), 1 ≤ s.size → s.size ≤ 65536 → StartsAt W N → Calls Tryd.prog f #[.string s, c] W fun e w' => e = .returned (.bool (p s.data.toList)) ∧ ∃ m, w' = W.drewN m
def ReadOk (N : Nat) (rv : Value) (r : List UInt8 → Pc) : Prop :=
  (∃ f, rv = .func (.func f) #[] #[] ∧ (∀ (args : Array Value) (w : World), (callFunc f args).run Tryd.prog w = .ok (.enter f args) w) ∧
    ∀ (s : ByteArray) (W : World), 1 ≤ s.size → s.size ≤ 65536 → StartsAt W N → Calls Tryd.prog f #[.string s] W fun e w' => e = .returned (pieceV (r s.data.toList)) ∧ Below W.heap.size W w') ∨
  (∃ f c, rv = .func (.func f) #[] #[c] ∧ (∀ (args : Array Value) (w : World), (callFunc f args).run Tryd.prog w = .ok (.enter f args) w) ∧
    ∀ (s : ByteArray) (W : World), 1 ≤ s.size → s.size ≤ 65536 → StartsAt W N → Calls Tryd.prog f #[.string s, c] W fun e w' => e = .returned (pieceV (r s.data.toList)) ∧ Below W.heap.size W w')

def rowsV (N : Nat) : List (Value × Value) :=
  [(byteV N, plainV 36), (textV (N + 1), plainV 38), (byteV (N + 2), plainV 40),
   (textV (N + 5), signV (N + 4)), (textV (N + 8), signV (N + 7)), (textV (N + 11), signV (N + 10)), (textV (N + 14), signV (N + 13)), (textV (N + 17), signV (N + 16)), (textV (N + 20), signV (N + 19)), (textV (N + 23), signV (N + 22)),
   (byteV (N + 24), plainV 43), (textV (N + 25), plainV 44), (textV (N + 26), plainV 45), (textV (N + 27), refuseV (N + 28)), (textV (N + 29), refuseV (N + 30))]

theorem enters_text : ∀ (args : Array Value) (w : World), (callFunc 63 args).run Tryd.prog w = .ok (.enter 63 args) w := by
  intro args w; simp [go_sem]
theorem enters_byte : ∀ (args : Array Value) (w : World), (callFunc 61 args).run Tryd.prog w = .ok (.enter 61 args) w := by
  intro args w; simp [go_sem]
theorem enters_letter : ∀ (args : Array Value) (w : World), (callFunc 39 args).run Tryd.prog w = .ok (.enter 39 args) w := by
  intro args w; simp [go_sem]
theorem enters_times : ∀ (args : Array Value) (w : World), (callFunc 42 args).run Tryd.prog w = .ok (.enter 42 args) w := by
  intro args w; simp [go_sem]

theorem begins_text {N : Nat} (i : Nat) (t : List UInt8) (h : (startObjs N)[i]? = some (textO t)) : BeginsOk N (textV (N + i)) (fun l => Lib.hasPrefix l t) :=
  ⟨_, _, rfl, enters_text, fun s W _ _ hS => by
    have hc : W.cell? ⟨N + i, 0, none⟩ = some (.string (bs t)) := (Blk.cell (t := 9) (cs := #[.string (bs t)]) (hS i _ h) 0).trans rfl
    have := textIs_any s (bs t) (N + i) W hc
    rw [bs_toList] at this
    exact this⟩
theorem begins_byte {N : Nat} (i : Nat) (f : Nat) (p : Int → Bool) (h : (startObjs N)[i]? = some (byteO f))
    (eg : ∀ (args : Array Value) (w : World), (callFunc f args).run Tryd.prog w = .ok (.enter f args) w)
    (hp : ∀ (n : Int) (w : World), 0 ≤ n → n ≤ 255 → Calls Tryd.prog f #[.int .u8 n] w fun e w' => e = .returned (.bool (p n)) ∧ w = w') : BeginsOk N (byteV (N + i)) (fun l => p (byteZ l 0)) :=
  ⟨_, _, rfl, enters_byte, fun s W h1 _ hS => by
    have hc : W.cell? ⟨N + i, 0, none⟩ = some (plainV f) := (Blk.cell (t := 74) (cs := #[plainV f]) (hS i _ h) 0).trans rfl
    exact byteIs_any s f p (N + i) W h1 hc eg hp⟩
theorem read_sign {N : Nat} (i : Nat) (kind : Int) (t : List UInt8) (h : (startObjs N)[i]? = some (signO kind t)) : ReadOk N (signV (N + i)) (fun _ => { tok := { kind := kind }, size := t.length }) :=
  .inr ⟨_, _, rfl, by intro args w; simp [go_sem], fun s W _ _ hS => signIs_any s _ (N + i) W (hS i _ h)⟩
theorem read_refuse {N : Nat} (i : Nat) (er : Nat) (h : (startObjs N)[i]? = some (refuseO er)) : ReadOk N (refuseV (N + i)) (fun _ => { bad := 0, err := er }) :=
  .inr ⟨_, _, rfl, by intro args w; simp [go_sem], fun s W _ _ hS => refuseIs_any s er (N + i) W (hS i _ h)⟩

theorem row_ok (N : Nat) : ∀ (k : Nat) (bv rv : Value) (row : Row), (rowsV N)[k]? = some (bv, rv) → table[k]? = some row → BeginsOk N bv row.1 ∧ ReadOk N rv row.2 := by
  intro k bv rv row hk ht
  have key : ∀ (p : List UInt8 → Bool) (r : List UInt8 → Pc) (b v : Value), (bv, rv) = (b, v) → row = (p, r) → BeginsOk N b p → ReadOk N v r → BeginsOk N bv row.1 ∧ ReadOk N rv row.2 := by
    intro p r b v h1 h2 h3 h4
    injection h1 with h1 h5
    subst h1; subst h5; subst h2
    exact ⟨h3, h4⟩
  match k with
  | 0 => exact key _ _ _ _ (Option.some.inj hk).symm (Option.some.inj ht).symm (begins_byte 0 _ blankZ rfl enters_blank (fun n w _ _ => isBlank_any n w)) (.inl ⟨_, rfl, by intro args w; simp [go_sem], fun s W _ hs _ => passBlanks_any s hs W⟩)
  | 1 => exact key _ _ _ _ (Option.some.inj hk).symm (Option.some.inj ht).symm (begins_text 1 [59] rfl) (.inl ⟨_, rfl, by intro args w; simp [go_sem], fun s W _ hs _ => by have := passRemark_any s W; rw [← listLen] at this; exact this⟩)
  | 2 => exact key _ _ _ _ (Option.some.inj hk).symm (Option.some.inj ht).symm (begins_byte 2 _ letterZ rfl enters_letter (fun n w _ _ => isLetter_any n w)) (.inl ⟨_, rfl, by intro args w; simp [go_sem], fun s W _ hs _ => readName_any s hs W⟩)
  | 3 => exact key _ _ _ _ (Option.some.inj hk).symm (Option.some.inj ht).symm (begins_text 5 [61, 47] rfl) (read_sign 4 3 [61, 47] rfl)
  | 4 => exact key _ _ _ _ (Option.some.inj hk).symm (Option.some.inj ht).symm (begins_text 8 [61] rfl) (read_sign 7 2 [61] rfl)
  | 5 => exact key _ _ _ _ (Option.some.inj hk).symm (Option.some.inj ht).symm (begins_text 11 [47] rfl) (read_sign 10 4 [47] rfl)
  | 6 => exact key _ _ _ _ (Option.some.inj hk).symm (Option.some.inj ht).symm (begins_text 14 [40] rfl) (read_sign 13 5 [40] rfl)
  | 7 => exact key _ _ _ _ (Option.some.inj hk).symm (Option.some.inj ht).symm (begins_text 17 [41] rfl) (read_sign 16 6 [41] rfl)
  | 8 => exact key _ _ _ _ (Option.some.inj hk).symm (Option.some.inj ht).symm (begins_text 20 [91] rfl) (read_sign 19 7 [91] rfl)
  | 9 => exact key _ _ _ _ (Option.some.inj hk).symm (Option.some.inj ht).symm (begins_text 23 [93] rfl) (read_sign 22 8 [93] rfl)
  | 10 => exact key _ _ _ _ (Option.some.inj hk).symm (Option.some.inj ht).symm (begins_byte 24 _ timesZ rfl enters_times (fun n w _ _ => isTimes_any n w)) (.inl ⟨_, rfl, by intro args w; simp [go_sem], fun s W _ hs _ => readTimes_any s hs W⟩)
  | 11 => exact key _ _ _ _ (Option.some.inj hk).symm (Option.some.inj ht).symm (begins_text 25 [34] rfl) (.inl ⟨_, rfl, by intro args w; simp [go_sem], fun s W h1 hs _ => readChars_any s hs h1 W⟩)
  | 12 => exact key _ _ _ _ (Option.some.inj hk).symm (Option.some.inj ht).symm (begins_text 26 [37] rfl) (.inl ⟨_, rfl, by intro args w; simp [go_sem], fun s W _ hs _ => readValues_any s hs W⟩)
  | 13 => exact key _ _ _ _ (Option.some.inj hk).symm (Option.some.inj ht).symm (begins_text 27 [60] rfl) (read_refuse 28 16 rfl)
  | 14 => exact key _ _ _ _ (Option.some.inj hk).symm (Option.some.inj ht).symm (begins_text 29 [] rfl) (read_refuse 30 11 rfl)
  | n + 15 => exact absurd ht (by simp [table])

theorem pick_yes {k : Nat} {row : Row} {l : List UInt8} (ht : table[k]? = some row) (hp : row.1 l = true) (h : readP l = pick (table.drop k) l) : readP l = row.2 l := by
  obtain ⟨hk, e⟩ := List.getElem?_eq_some_iff.1 ht
  rw [h, List.drop_eq_getElem_cons hk, e, pick, if_pos hp]
theorem pick_no {k : Nat} {row : Row} {l : List UInt8} (ht : table[k]? = some row) (hp : row.1 l = false) (h : readP l = pick (table.drop k) l) : readP l = pick (table.drop (k + 1)) l := by
  obtain ⟨hk, e⟩ := List.getElem?_eq_some_iff.1 ht
  rw [h, List.drop_eq_getElem_cons hk, e, pick, if_neg (by simp [hp])]
theorem table_size : table.length = 15 := rfl
theorem rowsV_size (N : Nat) : (rowsV N).length = 15 := rfl
theorem cells_rows {W : World} {N : Nat} (h : StartsAt W N) (k : Nat) (bv rv : Value) (hk : (rowsV N)[k]? = some (bv, rv)) : W.cell? ⟨N + 31, k * 2, none⟩ = some bv ∧ W.cell? ⟨N + 31, k * 2 + 1, none⟩ = some rv := by
  have hB := fun i => Blk.cell (t := 77) (h 31 _ rfl) i
  rw [hB, hB]
  match k, hk with
  | 0, hk | 1, hk | 2, hk | 3, hk | 4, hk | 5, hk | 6, hk | 7, hk | 8, hk | 9, hk | 10, hk | 11, hk | 12, hk | 13, hk | 14, hk =>
    injection Option.some.inj hk with h1 h2
    subst h1; subst h2
    exact ⟨rfl, rfl⟩
  | n + 15, hk => exact absurd hk (by simp [rowsV])

set_option maxHeartbeats 2000000 in
theorem readPiece_any (s : ByteArray) (g N : Nat) (v : Value) (o : Bool) (h1 : 1 ≤ s.size) (hs : s.size ≤ 65536) (w : World) (hS : StartsAt w N) (hN : N + 32 ≤ w.heap.size)
    (hg : Blk w g 54 #[.slice (some ⟨N + 31, 0, none⟩) 15 15, v, .bool o]) :
    Calls Tryd.prog 77 #[.pointer (some ⟨g, 0, none⟩), .string s] w fun e w' => e = .returned (pieceV (readP s.data.toList)) ∧ Below w.heap.size w w' := by
  have hc := hg.cell
  have hlt := hg.lt
  have hsf := run_store_func Tryd.prog
  have HP0 := Lib.hid (show readP s.data.toList = pick (table.drop 0) s.data.toList from rfl)
  generalize hP : readP s.data.toList = P at *
  have HPP := Lib.hid hP
  clear hP
  go_enter Tryd.func77, Tryd.ntmps77
  go_wp2
  have hR0 : Blk (w.alloc (.cells zeroCells 100)) w.heap.size 100 zeroCells := Blk.new _ _ _
  have hB0 : Below w.heap.size w (w.alloc (.cells zeroCells 100)) := (Below.refl _ _).alloc (Nat.le_refl _) _
  have hS0 : StartsAt (w.alloc (.cells zeroCells 100)) N := hS.below hB0 hN
  have hz0 : (w.alloc (.cells zeroCells 100)).heap.size = w.heap.size + 1 := by simp
  clear hc hg hlt hS
  unfold zeroCells at hR0 hB0 hS0 hz0
  generalize w.alloc (.cells #[.int .u8 0, .int .i64 0, .string ⟨#[]⟩, .int .i64 0, .int .i64 0, .int .u8 0, .int .u8 0, .int .i64 0, .int .i64 0, .int .i64 0] 100) = W0 at *
  go_loopw [12] (fun i wr => ∃ k : Nat, k ≤ 15 ∧ i = .int .i64 k ∧ Below W0.heap.size W0 wr ∧ Hid (P = pick (table.drop k) s.data.toList)) (fun i _ => 15 - (intOf i).toNat)
  case atStart => exact ⟨0, by omega, rfl, Below.refl _ _, HP0⟩
  case round =>
    clear HP0
    obtain ⟨k, hk, rfl, hbel, HP⟩ := hrel
    have hSr := hS0.below hbel (by omega)
    have hRr := hR0.below hbel (by omega)
    have hbsz := hbel.size
    by_cases hlt : k < 15
    · obtain ⟨bv, rv, hrow⟩ : ∃ bv rv, (rowsV N)[k]? = some (bv, rv) := ⟨_, _, List.getElem?_eq_getElem (by rw [rowsV_size]; exact hlt)⟩
      obtain ⟨row, htab⟩ : ∃ row, table[k]? = some row := ⟨_, List.getElem?_eq_getElem (by rw [table_size]; exact hlt)⟩
      obtain ⟨hc1, hc2⟩ := cells_rows hSr k bv rv hrow
      obtain ⟨hbeg, hread⟩ := row_ok N k bv rv row hrow htab
      obtain ⟨f, c, rfl, egf, hcall⟩ := hbeg
      have HC := Lib.hid hcall
      have HT := Lib.hid htab
      clear hcall htab hrow
      rcases hread with ⟨f2, rfl, eg2, hcall2⟩ | ⟨f2, c2, rfl, eg2, hcall2⟩
      · have HC2 := Lib.hid hcall2
        clear hcall2
        go_wp2_with fail
        refine (HC.out s _ h1 hs (hSr.below ((Below.refl _ _).alloc (Nat.le_refl _) _) (by omega))).mono ?_
        rintro e w2 ⟨rfl, m, hm⟩
        have hb2 : Below wr.heap.size wr w2 := by rw [hm]; exact below_drewN ((Below.refl _ _).alloc (Nat.le_refl _) _) m
        have hq2 : Blk w2 wr.heap.size 77 #[.func (.func f) #[] #[c], .func (.func f2) #[] #[]] := by rw [hm]; exact Blk.new wr 77 _
        have hbel2 : Below W0.heap.size W0 w2 := hbel.trans (hb2.mono hbsz)
        clear hm hc1 hc2
        have hq2c := hq2.cell
        cases hp : row.1 s.data.toList with
        | false =>
          have HN := Lib.hid (pick_no HT.out hp (by rw [HPP.out]; exact HP.out))
          clear hp HC HC2
          go_wp2
          go_roundw
          case rel => exact ⟨k + 1, by omega, by go_num, hbel2, by rw [HPP.out] at HN; exact HN⟩
          case measure => simp [intOf]; omega
        | true =>
          have HY := Lib.hid (pick_yes HT.out hp (by rw [HPP.out]; exact HP.out))
          clear hp HC
          go_wp2_with fail
          refine (HC2.out s _ h1 hs (hS0.below hbel2 (by omega))).mono ?_
          rintro e w3 ⟨rfl, hb3⟩
          have hbel3 : Below W0.heap.size W0 w3 := hbel2.trans (hb3.mono hbel2.size)
          have hR3 := hR0.below hbel3 (by omega)
          have hcR := hR3.cell
          have hfR := hR3.frozen
          clear hq2c hb3 hb2
          have HY' := HY.out
          rw [HPP.out] at HY'
          generalize row.2 s.data.toList = P2 at *
          have HY2 := Lib.hid HY'
          clear HY' HY
          unfold pieceV
          go_wp2
          refine bodyPost_ret (v := pieceV P2) ?_ rfl ⟨by rw [HY2.out], ?_⟩
          · simp [results, Tryd.results77, go_sem, hcR]
            rfl
          · iterate 10 refine Below.setCell ?_ (by simp) _
            exact hB0.trans (hbel3.mono (by omega))
      · have HC2 := Lib.hid hcall2
        clear hcall2
        go_wp2_with fail
        refine (HC.out s _ h1 hs (hSr.below ((Below.refl _ _).alloc (Nat.le_refl _) _) (by omega))).mono ?_
        rintro e w2 ⟨rfl, m, hm⟩
        have hb2 : Below wr.heap.size wr w2 := by rw [hm]; exact below_drewN ((Below.refl _ _).alloc (Nat.le_refl _) _) m
        have hq2 : Blk w2 wr.heap.size 77 #[.func (.func f) #[] #[c], .func (.func f2) #[] #[c2]] := by rw [hm]; exact Blk.new wr 77 _
        have hbel2 : Below W0.heap.size W0 w2 := hbel.trans (hb2.mono hbsz)
        clear hm hc1 hc2
        have hq2c := hq2.cell
        cases hp : row.1 s.data.toList with
        | false =>
          have HN := Lib.hid (pick_no HT.out hp (by rw [HPP.out]; exact HP.out))
          clear hp HC HC2
          go_wp2
          go_roundw
          case rel => exact ⟨k + 1, by omega, by go_num, hbel2, by rw [HPP.out] at HN; exact HN⟩
          case measure => simp [intOf]; omega
        | true =>
          have HY := Lib.hid (pick_yes HT.out hp (by rw [HPP.out]; exact HP.out))
          clear hp HC
          go_wp2_with fail
          refine (HC2.out s _ h1 hs (hS0.below hbel2 (by omega))).mono ?_
          rintro e w3 ⟨rfl, hb3⟩
          have hbel3 : Below W0.heap.size W0 w3 := hbel2.trans (hb3.mono hbel2.size)
          have hR3 := hR0.below hbel3 (by omega)
          have hcR := hR3.cell
          have hfR := hR3.frozen
          clear hq2c hb3 hb2
          have HY' := HY.out
          rw [HPP.out] at HY'
          generalize row.2 s.data.toList = P2 at *
          have HY2 := Lib.hid HY'
          clear HY' HY
          unfold pieceV
          go_wp2
          refine bodyPost_ret (v := pieceV P2) ?_ rfl ⟨by rw [HY2.out], ?_⟩
          · simp [results, Tryd.results77, go_sem, hcR]
            rfl
          · iterate 10 refine Below.setCell ?_ (by simp) _
            exact hB0.trans (hbel3.mono (by omega))
    · obtain rfl : k = 15 := by omega
      have hcR := hRr.cell
      have hfR := hRr.frozen
      go_wp2_with fail
      refine (fault_any 0 11 _).mono ?_
      rintro e w1 ⟨rfl, hb⟩
      have hR3 := hRr.below hb (by have := hRr.lt; omega)
      clear hcR hfR
      have hcR := hR3.cell
      have hfR := hR3.frozen
      unfold pieceV
      go_wp2
      refine bodyPost_ret (v := pieceV { bad := 0, err := 11 }) ?_ rfl ⟨by rw [HP.out]; rfl, ?_⟩
      · simp [results, Tryd.results77, go_sem, hcR]
        rfl
      · iterate 10 refine Below.setCell ?_ (by simp) _
        exact hB0.trans ((hbel.trans (hb.mono hbsz)).mono (by omega))
end Go.Proofs.YtciabhboiomehaaDoor
