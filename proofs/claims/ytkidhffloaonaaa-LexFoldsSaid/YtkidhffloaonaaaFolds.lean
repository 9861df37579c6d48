/-
  LexFolds, walked: it answers true for every row of numbers, all gaps and every remark, and changes nothing that was there. No conditions.
-/
import Derived.Test.YtkidhffloaonaaaFoldsPure
import Derived.Test.YtkidhffloaonaaaRefL
import Derived.Test.YtkidhffloaonaaaAwake
import Derived.Test.YtkidhffloaonaaaShelfC
namespace Go.Proofs.Ytkidhffloaonaaa
open Go.RowKit

def strCells (l : List (List UInt8)) : Array Value := (l.map fun t => Value.string (bs t)).toArray
def PiecesOut (w : World) (e : Ending) (w' : World) : Prop :=
  e = .returned (.tuple #[.slice (some ⟨w.heap.size, 0, none⟩) 19 19, .slice (some ⟨w.heap.size + 1, 0, none⟩) 19 19]) ∧ Blk w' w.heap.size 9 (strCells pieceTexts) ∧ Blk w' (w.heap.size + 1) 30 (toksCells pieceToks).toArray ∧ Below w.heap.size w w' ∧ w'.heap.size = w.heap.size + 2
set_option maxRecDepth 100000 in
set_option maxHeartbeats 2000000 in
theorem pieces_any (w : World) : Calls Try.prog 15 #[] w (PiecesOut w) := by
  go_enter Try.func15, Try.ntmps15
  go_wp2
  go_ret2
  refine ⟨rfl, ?_, ?_, ?_, ?_⟩
  · exact (Blk.new w 9 (strCells pieceTexts)).alloc _
  · exact Blk.new_at (w.alloc (.cells (strCells pieceTexts) 9)) 30 (toksCells pieceToks).toArray _ (by simp)
  · exact ((Below.refl _ _).alloc (Nat.le_refl _) _).alloc (by simp) _
  · simp

/-- a slice of bytes that came in -/
structure U8Row (w : World) (v : Value) (A : Option Addr) (c : Nat) (zs : List Int) : Prop where
  val : v = .slice A zs.length c
  room : zs.length ≤ c
  least : c ≤ maxLen
  cells : ∀ k, k < zs.length → ∃ g off, A = some ⟨g, off, none⟩ ∧ g < w.heap.size ∧ ∀ j, (h : j < zs.length) → w.cell? ⟨g, off + j, none⟩ = some (.int .u8 (zs[j]'h))
  bytes : ∀ z ∈ zs, 0 ≤ z ∧ z ≤ 255

def gapCells (m : ByteArray) : Array Value := #[.string ({ data := #[32] } : ByteArray), .string ({ data := #[9, 32] } : ByteArray), .string ({ data := #[32, 32] } : ByteArray), .string ({ data := #[10, 32] } : ByteArray), .string ({ data := #[13, 10, 9] } : ByteArray), .string (({ data := #[32, 59] } : ByteArray) ++ m ++ ({ data := #[10, 32] } : ByteArray)), .string (({ data := #[10, 10, 32, 10, 32, 59] } : ByteArray) ++ m ++ ({ data := #[10, 59] } : ByteArray) ++ m ++ ({ data := #[13, 10, 32, 32] } : ByteArray))]
theorem gapCells_eq (m : ByteArray) : gapCells m = strCells (gapTexts m.data.toList) := by
  have e1 : ({ data := #[32, 59] } : ByteArray) ++ m ++ ({ data := #[10, 32] } : ByteArray) = bs (32 :: 59 :: (m.data.toList ++ [10, 32])) := by
    apply ByteArray.ext
    simp [bs, ByteArray.data_append]
  have e2 : ({ data := #[10, 10, 32, 10, 32, 59] } : ByteArray) ++ m ++ ({ data := #[10, 59] } : ByteArray) ++ m ++ ({ data := #[13, 10, 32, 32] } : ByteArray) = bs (10 :: 10 :: 32 :: 10 :: 32 :: 59 :: (m.data.toList ++ 10 :: 59 :: (m.data.toList ++ [13, 10, 32, 32]))) := by
    apply ByteArray.ext
    simp [bs, ByteArray.data_append]
  unfold gapCells
  rw [e1, e2]
  rfl
theorem strCells_at (l : List (List UInt8)) (k : Nat) (h : k < l.length) : (strCells l)[k]? = some (.string (bs (l.getD k []))) := by
  unfold strCells
  rw [List.getElem?_toArray, List.getElem?_map, List.getElem?_eq_getElem h, List.getD_eq_getElem?_getD, List.getElem?_eq_getElem h]
  rfl
theorem toksCells_cell (l : List Tk) (k : Nat) (h : k < l.length) (j : Nat) (hj : j < 7) : (toksCells l).toArray[k * 7 + j]? = (tokCells (l.getD k {}))[j]? := by
  rw [List.getElem?_toArray, toksCells_at l k (l.getD k {}) (by rw [List.getD_eq_getElem?_getD, List.getElem?_eq_getElem h]; rfl) j hj]
theorem tok_cells {w : World} {g : Nat} {l : List Tk} (hb : Blk w g 30 (toksCells l).toArray) (k : Nat) (h : k < l.length) (t : Tk) (ht : t = l.getD k {}) :
    w.cell? ⟨g, k * 7, none⟩ = some (.int .u8 t.kind) ∧ w.cell? ⟨g, k * 7 + 1, none⟩ = some (.int .i64 t.place) ∧ w.cell? ⟨g, k * 7 + 2, none⟩ = some (.string (bs t.text)) ∧
      w.cell? ⟨g, k * 7 + 3, none⟩ = some (.int .i64 t.mn) ∧ w.cell? ⟨g, k * 7 + 4, none⟩ = some (.int .i64 t.mx) ∧ w.cell? ⟨g, k * 7 + 5, none⟩ = some (.int .u8 t.lo) ∧ w.cell? ⟨g, k * 7 + 6, none⟩ = some (.int .u8 t.hi) := by
  subst ht
  have key : ∀ j, j < 7 → w.cell? ⟨g, k * 7 + j, none⟩ = (tokCells (l.getD k {}))[j]? := fun j hj => (hb.cell _).trans (toksCells_cell l k h j hj)
  exact ⟨key 0 (by omega), key 1 (by omega), key 2 (by omega), key 3 (by omega), key 4 (by omega), key 5 (by omega), key 6 (by omega)⟩
theorem foldText_snoc (m : List UInt8) (ks : List (Nat × Nat)) (p : Nat × Nat) : foldText m (ks ++ [p]) = foldText m ks ++ ((gapTexts m).getD p.1 [] ++ pieceTexts.getD p.2 []) := by simp [foldText]
theorem foldToks_snoc (ks : List (Nat × Nat)) (p : Nat × Nat) : foldToks (ks ++ [p]) = foldToks ks ++ [pieceToks.getD p.2 {}] := by simp [foldToks]
theorem no10 (l : List UInt8) (h : Lib.indexByte l 10 < 0) : ∀ c ∈ l, c ≠ 10 := by
  intro c hc e
  subst e
  obtain ⟨k, hk⟩ := List.mem_iff_getElem?.1 hc
  have hb := indexByte_bd l 10
  exact Lib.indexByte_none (show Lib.indexByte l 10 = -1 by omega) k hk

theorem want_start (w1 : World) (o : Obj) : RefSt (w1.alloc o) ((w1.alloc o).alloc (.cells (tokCells ruleTok).toArray 30)) [ruleTok] (.slice (some ⟨w1.heap.size + 1, 0, none⟩) 1 1) := by
  have h := World.ownsRow_lit (base := (w1.alloc o).heap.size) (e := 30) (size := 7) (w1.alloc o) (tokCells ruleTok).toArray 1 (Nat.le_refl _) (by unfold maxLen; omega) rfl
  have e : (w1.alloc o).heap.size = w1.heap.size + 1 := by simp
  refine ⟨?_, (Below.refl _ _).alloc (Nat.le_refl _) _⟩
  rw [← e]
  exact h

theorem piece_bare : ∀ k, k < 19 → bare (pieceToks.getD k {}) = pieceToks.getD k {} := by decide
theorem fold_bare (ks : List (Nat × Nat)) (h : ∀ p ∈ ks, p.1 < 7 ∧ p.2 < 19) : (foldToks ks).map bare = foldToks ks := by
  induction ks with
  | nil => rfl
  | cons p ks ih =>
    have e : foldToks (p :: ks) = pieceToks.getD p.2 {} :: foldToks ks := rfl
    rw [e, List.map_cons, ih (fun q hq => h q (by simp [hq])), piece_bare p.2 (h p (by simp)).2]
theorem want_bare (ks : List (Nat × Nat)) (h : ∀ p ∈ ks, p.1 < 7 ∧ p.2 < 19) : ((ruleTok :: foldToks ks) ++ [({ kind := 13 } : Tk)]).map bare = ruleTok :: foldToks ks ++ [{ kind := 13 }] := by
  rw [List.map_append, List.map_cons, fold_bare ks h]
  rfl

set_option maxRecDepth 100000 in
set_option maxHeartbeats 8000000 in
theorem LexFolds_main (vl vg : Value) (Al Ag : Option Addr) (cl cg : Nat) (zl zg : List Int) (m : ByteArray) (w : World) (hl : U8Row w vl Al cl zl) (hg : U8Row w vg Ag cg zg) (hm : m.size ≤ 40) (hno : Lib.indexByte m.data.toList 10 < 0) :
    Calls Try.prog 5 #[vl, vg, .string m] w fun e w' => e = .returned (.bool true) ∧ Below w.heap.size w w' := by
  have hvl := hl.val
  have hvg := hg.val
  have hroom := hl.room
  have hleast := hl.least
  unfold maxLen at hleast
  have HL := Lib.hid hl
  have HG := Lib.hid hg
  have HGL : Hid (zg.length ≤ maxLen) := Nat.le_trans hg.room hg.least
  clear hl hg
  subst hvl hvg
  have hdec : decide (0 ≤ Lib.indexByte m.data.toList 10) = false := by simpa using hno
  have HCO : Hid (∀ W, Calls Try.prog 14 #[.string m, .string ⟨#[10]⟩] W fun e w' => e = .returned (.bool false) ∧ W = w') := by
    show ∀ W, _
    intro W
    refine (Try.strings_Contains_one m 10 W).mono ?_
    rintro e w' ⟨rfl, h⟩
    exact ⟨ret_bool hdec, h.symm⟩
  have HNO := Lib.hid (no10 _ hno)
  clear hno hdec
  generalize hnl : zl.length = nl at *
  have HNL := Lib.hid hnl
  clear hnl
  generalize hng : zg.length = ng at *
  have HNG := Lib.hid hng
  clear hng
  have hgl := HGL.out
  unfold maxLen at hgl
  obtain ⟨M, hmin, hM1, hM2⟩ : ∃ M : Nat, min (nl : Int) 40 = (M : Int) ∧ M ≤ 40 ∧ M ≤ nl := ⟨min nl 40, by omega, by omega, by omega⟩
  have hmax : max (M : Int) 0 = (M : Int) := by omega
  have h40 : ¬ 40 < (m.size : Int) := by omega
  go_enter Try.func5, Try.ntmps5
  go_wp2_with (first | (go_at_call 14; refine (HCO.out _).mono ?_; rintro e w' ⟨rfl, rfl⟩) | (go_at_call 15; refine (pieces_any _).mono ?_; rintro e w1 ⟨rfl, ht, hk, hb1, -⟩))
  obtain ⟨W0, HW0⟩ : ∃ W0 : World, Hid (W0 = w1.alloc (.cells (gapCells m) 9)) := ⟨_, rfl⟩
  have HT : Hid (Blk W0 w.heap.size 9 (strCells pieceTexts)) := by rw [HW0.out]; exact ht.alloc _
  have HK : Hid (Blk W0 (w.heap.size + 1) 30 (toksCells pieceToks).toArray) := by rw [HW0.out]; exact hk.alloc _
  have HGP : Hid (Blk W0 w1.heap.size 9 (strCells (gapTexts m.data.toList))) := by rw [HW0.out, gapCells_eq]; exact Blk.new _ _ _
  have hb0 : Below w.heap.size w W0 := by rw [HW0.out]; exact hb1.alloc (by have := hk.lt; omega) _
  have hz1 : w.heap.size + 2 ≤ w1.heap.size := by have := hk.lt; omega
  have hz2 : w1.heap.size < W0.heap.size := by rw [HW0.out]; simp
  clear ht hk hmin hmax hb1
  obtain ⟨i0, hi0, hz0, hzz1, hzz2⟩ := info_parts Try.infoTok
  go_loopg [10, 11, 51] M (fun gi st wt iv wr => ∃ (k : Nat) (S : ByteArray) (ks : List (Nat × Nat)) (vv : Value), vv = wt ∧ st = .string S ∧ iv = .int .i64 k ∧ k ≤ M ∧ gi = M - k ∧ ks.length = k ∧ Hid (S.data.toList = ruleText ++ foldText m.data.toList ks) ∧ Hid (∀ p ∈ ks, p.1 < 7 ∧ p.2 < 19) ∧ RefSt W0 wr (ruleTok :: foldToks ks) vv)
  case atStart => exact ⟨0, _, [], _, rfl, rfl, rfl, Nat.zero_le _, rfl, rfl, rfl, (show ∀ p ∈ [], _ from fun p hp => absurd hp (by simp)), by rw [HW0.out]; exact want_start _ _⟩
  case round =>
    obtain ⟨k, S, ks, vv, rfl, rfl, rfl, hkM, hgi, hks, HS, HB, hst⟩ := hrel
    by_cases hlt : k < M
    · have hbw : Below w.heap.size w wr := hb0.trans (hst.below.mono (by omega))
      obtain ⟨gl, ol, rfl, hgl2, hcl⟩ := HL.out.cells k (by rw [HNL.out]; omega)
      have hc0 := (hbw.cell (p := ⟨gl, ol + k, none⟩) hgl2).trans (hcl k (by rw [HNL.out]; omega))
      have hby := HL.out.bytes _ (List.getElem_mem (show k < zl.length by rw [HNL.out]; omega))
      clear hcl
      generalize zl[k]'(by rw [HNL.out]; omega) = z at *
      go_upto_if 58 with (fail)
      go_cut [14] (fun v wx => ∃ G : Nat, v = .int .i64 G ∧ G < 7 ∧ wr = wx)
      case first =>
        by_cases h0 : ng = 0
        · have h0' : ¬ (0 : Int) < ng := by omega
          clear h0
          go_wp2
          go_meet
          exact ⟨0, rfl, by omega, rfl⟩
        · have h0' : (0 : Int) < ng := by omega
          have hkk : k % ng < ng := Nat.mod_lt _ (by omega)
          obtain ⟨gg, og, rfl, hgg2, hcg⟩ := HG.out.cells 0 (by rw [HNG.out]; omega)
          have hc1 := (hbw.cell (p := ⟨gg, og + k % ng, none⟩) hgg2).trans (hcg (k % ng) (by rw [HNG.out]; omega))
          have hby1 := HG.out.bytes _ (List.getElem_mem (show k % ng < zg.length by rw [HNG.out]; omega))
          clear hcg
          generalize zg[k % ng]'(by rw [HNG.out]; omega) = y at *
          clear h0
          go_wp2
          go_meet
          exact ⟨(y % 7).toNat, by rw [Int.toNat_of_nonneg (by omega)], by omega, rfl⟩
      case rest =>
        obtain ⟨G, rfl, hG, rfl⟩ := hcut
        obtain ⟨K, hK1, hK2, hK3⟩ : ∃ K : Nat, z.tmod 19 = (K : Int) ∧ z % 19 = (K : Int) ∧ K < 19 := ⟨(z % 19).toNat, by rw [Int.tmod_eq_emod_of_nonneg hby.1]; omega, by omega, by omega⟩
        have hct : wr.cell? ⟨w.heap.size, K, none⟩ = some (.string (bs (pieceTexts.getD K []))) := ((HT.out.below hst.below (by omega)).cell K).trans (strCells_at _ _ hK3)
        have hcgp : wr.cell? ⟨w1.heap.size, G, none⟩ = some (.string (bs ((gapTexts m.data.toList).getD G []))) := ((HGP.out.below hst.below (by omega)).cell G).trans (strCells_at _ _ hG)
        obtain ⟨k0, k1, k2, k3, k4, k5, k6⟩ := tok_cells (HK.out.below hst.below (by omega)) K hK3 _ rfl
        have HSN : Hid ((S ++ (bs ((gapTexts m.data.toList).getD G []) ++ bs (pieceTexts.getD K []))).data.toList = ruleText ++ foldText m.data.toList (ks ++ [(G, K)])) := by
          show _ = _
          rw [foldText_snoc, ByteArray.data_append, ByteArray.data_append, Array.toList_append, Array.toList_append, HS.out, List.append_assoc]
          rfl
        have HTN : Hid (ruleTok :: foldToks (ks ++ [(G, K)]) = (ruleTok :: foldToks ks) ++ [pieceToks.getD K {}]) := by
          show _ = _
          rw [foldToks_snoc]
          rfl
        have HBN : Hid (∀ p ∈ ks ++ [(G, K)], p.1 < 7 ∧ p.2 < 19) := by
          show ∀ p ∈ ks ++ [(G, K)], _
          intro p hp
          rcases List.mem_append.1 hp with hp | hp
          · exact HB.out p hp
          · simp only [List.mem_singleton] at hp
            subst hp
            exact ⟨hG, hK3⟩
        have hlen : (ruleTok :: foldToks ks).length = k + 1 := by simp [foldToks, hks]
        have HLEN := Lib.hid hlen
        have hpt : (bs (pieceTexts.getD K [])).size ≤ 7 := piece_len K
        have hgt : (bs ((gapTexts m.data.toList).getD G [])).size ≤ 92 := by
          have := gap_len m.data.toList G
          rw [listLen] at this
          exact Nat.le_trans this (by omega)
        have hS : S.size ≤ 4000 := by
          have h1 := congrArg List.length HS.out
          have h2 := fold_len m.data.toList ks
          rw [listLen, List.length_append] at h1
          rw [listLen, hks] at h2
          have h3 : k * (2 * m.size + 19) ≤ 39 * 99 := Nat.mul_le_mul (by omega) (by omega)
          have h4 : ruleText.length = 4 := rfl
          omega
        generalize pieceToks.getD K {} = tok at *
        generalize bs (pieceTexts.getD K []) = pt at *
        generalize bs ((gapTexts m.data.toList).getD G []) = gt at *
        generalize ruleTok :: foldToks ks = tks at *
        have HKS := Lib.hid hks
        clear HS HB hlen hbw hc0 hks
        have hG' : (G : Int) < 7 := by omega
        have hG0 : (0 : Int) ≤ G := by omega
        have hK' : (K : Int) < 19 := by omega
        have hK0 : (0 : Int) ≤ K := by omega
        have hwz : IntKind.i64.wrap z = z := IntWalk.i64_in _ (by omega)
        have hwK : IntKind.i64.wrap (K : Int) = (K : Int) := IntWalk.i64_in _ (by omega)
        go_wp2_with fail
        go_quiet (fail)
        have hst1 := fun q => hst.drewN q
        have hsz : W0.heap.size ≤ wr.heap.size := hst.below.size
        have hkb : tks.length ≤ 41 := by rw [HLEN.out]; omega
        clear hct hcgp hwz hwK hK1
        go_wp2_with (at_builtin; refine wpList_append_lies _ rfl _ _ 23 rfl W0.heap.size 30 i0 _ 7 56 Try.underlying23 hi0 hz0 hzz1 hzz2 rfl (by decide) vv tks.length (toksCells tks) (by rfl) (((hst1 _).later ((Below.refl _ _).alloc (Nat.le_refl _) _)).own) ⟨wr.heap.size, 0, none⟩ 1 1 (tokCells tok) (by rfl) (by rfl) (World.news_of_block (cs := (tokCells tok).toArray) (t := 30) (fr := (0, 0)) (heap_alloc_new (wr.drewN _) _)) ?c1 (by omega) ?c2 ?c3 ?c4 (wr.heap.size + 1) (by simp) ?_)
        case c1 => simp [tokCells, Value.oneCell']
        case c2 => unfold maxLen; omega
        case c3 => omega
        case c4 => simp; omega
        intro gg cp w2 hown hgrow _ _
        have hput := ((hst1 _).later ((Below.refl _ _).alloc (Nat.le_refl _) _)).put hown hgrow
        rw [← HTN.out] at hput
        clear hown hgrow
        go_wp2
        go_roundg (M - (k + 1))
        case measure => omega
        case rel => exact ⟨k + 1, S ++ (gt ++ pt), ks ++ [(G, K)], _, rfl, rfl, by go_num, by omega, rfl, by simp [HKS.out], HSN, HBN, hput⟩
    · obtain rfl : k = M := by omega
      have hS : S.size ≤ 4000 := by
        have h1 := congrArg List.length HS.out
        have h2 := fold_len m.data.toList ks
        rw [listLen, List.length_append] at h1
        rw [listLen, hks] at h2
        have h3 : k * (2 * m.size + 19) ≤ 40 * 99 := Nat.mul_le_mul (by omega) (by omega)
        have h4 : ruleText.length = 4 := rfl
        omega
      have hl1 : (ruleText ++ foldText m.data.toList ks).length ≤ 4000 := by rw [← HS.out, listLen]; exact hS
      have ha := folds_a m.data.toList HNO.out ks HB.out (by omega)
      rw [← HS.out] at ha
      have hbb := folds_b m.data.toList HNO.out ks HB.out (by simp only [List.length_append, listLen, List.length_cons, List.length_nil] at hl1 ⊢; omega)
      have hB : (({ data := #[59, 32] } : ByteArray) ++ m ++ { data := #[10, 13, 10] } ++ S ++ { data := #[32, 59] } ++ m).data.toList = [59, 32] ++ m.data.toList ++ [10, 13, 10] ++ (ruleText ++ foldText m.data.toList ks) ++ [32, 59] ++ m.data.toList := by
        rw [← HS.out]
        simp [ByteArray.data_append]
      rw [← hB] at hbb
      have hY := want_bare ks HB.out
      have HLA := Lib.hid (fun W => Lex_any S W)
      have HLB := Lib.hid (fun W => Lex_any (({ data := #[59, 32] } : ByteArray) ++ m ++ { data := #[10, 13, 10] } ++ S ++ { data := #[32, 59] } ++ m) W)
      have hlen : (ruleTok :: foldToks ks).length = k + 1 := by simp [foldToks, hks]
      obtain ⟨t1, ea, ha2⟩ : ∃ t1, lexP S.data.toList = (t1, 0, 0) ∧ t1.map bare = ruleTok :: foldToks ks ++ [{ kind := 13 }] := ⟨_, Prod.ext rfl ha.1, ha.2⟩
      obtain ⟨t2, eb, hb2⟩ : ∃ t2, lexP (({ data := #[59, 32] } : ByteArray) ++ m ++ { data := #[10, 13, 10] } ++ S ++ { data := #[32, 59] } ++ m).data.toList = (t2, 0, 0) ∧ t2.map bare = ruleTok :: foldToks ks ++ [{ kind := 13 }] := ⟨_, Prod.ext rfl hbb.1, hbb.2⟩
      rw [ea] at HLA
      rw [eb] at HLB
      have HA2 := Lib.hid (ha2.trans hY.symm)
      have HB2 := Lib.hid (hb2.trans hY.symm)
      have hn1 : t1.length ≤ 200000 := by
        have := congrArg List.length ha2
        rw [List.length_map, List.length_append, hlen] at this
        simp at this
        omega
      have hn2 : t2.length ≤ 200000 := by
        have := congrArg List.length hb2
        rw [List.length_map, List.length_append, hlen] at this
        simp at this
        omega
      have hkb : (ruleTok :: foldToks ks).length ≤ 41 := by omega
      generalize ruleTok :: foldToks ks = tks at *
      have hsz : W0.heap.size ≤ wr.heap.size := hst.below.size
      clear ea eb ha hbb ha2 hb2 hY hB hl1 hlen HS HB hks HCO HL HG HNO
      go_wp2_with (at_builtin; refine wpList_append_lies _ rfl _ _ 23 rfl W0.heap.size 30 i0 _ 7 56 Try.underlying23 hi0 hz0 hzz1 hzz2 rfl (by decide) vv tks.length (toksCells tks) (by rfl) ((hst.later ((Below.refl _ _).alloc (Nat.le_refl _) _)).own) ⟨wr.heap.size, 0, none⟩ 1 1 (tokCells { kind := 13 }) (by rfl) (by rfl) (World.news_of_block (cs := (tokCells { kind := 13 }).toArray) (t := 30) (fr := (0, 0)) (heap_alloc_new wr _)) ?c1 (by omega) ?c2 ?c3 ?c4 (wr.heap.size + 1) (by simp) ?_)
      case c1 => simp [tokCells, Value.oneCell']
      case c2 => unfold maxLen; omega
      case c3 => omega
      case c4 => simp; omega
      intro gg cp w2 hown hgrow _ _
      have hput := (hst.later ((Below.refl _ _).alloc (Nat.le_refl _) _)).put hown hgrow
      have hbw2 := hb0.trans (hput.below.mono (by omega))
      have HTW := Lib.hid (TokRow.of_own hput.own)
      clear hown hgrow hput hst
      go_wp2_with fail
      refine (HLA.out _).mono ?_
      rintro e wa ⟨va, rfl, oa, ba⟩
      go_wp2_with fail
      refine (HLB.out _).mono ?_
      rintro e wb ⟨vb, rfl, ob, bb⟩
      go_wp2_with fail
      refine (Alike_same _ _ t1 _ _ hn1 HA2.out ((TokRow.of_own oa).below bb) ((HTW.out.below ba).below bb)).mono ?_
      rintro e wc ⟨rfl, bc⟩
      go_wp2_with fail
      refine (Alike_same _ _ t2 _ _ hn2 HB2.out ((TokRow.of_own ob).below bc) (((HTW.out.below ba).below bb).below bc)).mono ?_
      rintro e wd ⟨rfl, bd⟩
      go_wp2_with fail
      refine (awake_any _).mono ?_
      rintro e we ⟨rfl, be⟩
      go_wp2
      go_ret
      refine ⟨rfl, ?_⟩
      have hs := hbw2.size
      have h1 := ba.size
      have h2 := bb.size
      have h3 := bc.size
      have h4 := bd.size
      exact ((((hbw2.trans (ba.mono (by omega))).trans (bb.mono (by omega))).trans (bc.mono (by omega))).trans (bd.mono (by omega))).trans (be.mono (by omega))
end Go.Proofs.Ytkidhffloaonaaa
