/-
  The contract of frankinglaw12.FrameBack. Conditions: the slices lie in memory; the library's MaxLen holds some number.
-/
import Derived.Test.YtdgkedbnokdnfaaFcW
import Derived.Test.YtdgkedbnokdnfaaFkP
import Derived.Test.YtdgkedbnokdnfaaShelf
import Derived.Deep.DeepCutAuto
import Derived.Deep.AppendLies
namespace Go.Proofs.Ytdgkedbnokdnfaa
open Go.RowKit

/-- what is wanted so far, and that the texts are fine -/
structure WantW (w W : World) (v : Value) (n : Nat) (l : List (List UInt8)) : Prop where
  own : W.ownsRow w.heap.size 35 2 v l.length (linCells (l.map (lineP n)))
  low : Below w.heap.size w W
  ok : ∀ s ∈ l, s.length ≤ 300 ∧ NoEnd s
theorem WantW.one {w W : World} {v : Value} {n : Nat} {l : List (List UInt8)} (h : WantW w W v n l) (s : List UInt8) (hs : s.length ≤ 300) (hn : NoEnd s) {W1 W2 : World} {v' : Value} (hb : Below W.heap.size W W1)
    (ho : W2.ownsRow w.heap.size 35 2 v' (l.length + 1) (linCells (l.map (lineP n)) ++ [.string (bs (s.take n)), .bool (decide (n < s.length))])) (hg : W1.grownBy W2 v.ownBlock) : WantW w W2 v' n (l ++ [s]) := by
  refine ⟨?_, (low_trans h.low hb).grown hg (by have := h.low.size; have := hb.size; omega) (fun q e => (h.own.lt q e).1), fun x hx => ?_⟩
  · rw [List.length_append, List.map_append, linCells_app]
    exact ho
  · rcases List.mem_append.1 hx with hx | hx
    · exact h.ok x hx
    · rw [List.mem_singleton.1 hx]
      exact ⟨hs, hn⟩
theorem extract_list (s : ByteArray) (a b : Nat) : (s.extract a b).data.toList = (s.data.toList.drop a).take (b - a) := by
  rw [ByteArray.data_extract, Array.toList_extract, List.extract_eq_take_drop]
theorem extract_bs (s : ByteArray) (a b : Nat) : s.extract a b = bs ((s.data.toList.drop a).take (b - a)) := by
  rw [← extract_list]
  rfl
/-- texts joined -/
theorem join_at (a : Option Addr) (l : List (List UInt8)) (c : Nat) (hc : l.length ≤ c) (W : World) (h : TextsAt W a l) (hl : (Lib.join l [13, 10]).length ≤ 100000) (hn : l.length ≤ 1000) :
    Calls Try.prog 11 #[.slice a l.length c, .string ⟨#[13, 10]⟩] W fun e w' => e = .returned (.string (bs (Lib.join l [13, 10]))) ∧ Below W.heap.size W w' := by
  cases hl0 : l with
  | nil =>
    refine (Try.strings_Join_none a c ⟨#[13, 10]⟩ W).mono ?_
    rintro e w' ⟨rfl, rfl⟩
    exact ⟨rfl, Below.refl _ _⟩
  | cons x r =>
    rw [← hl0]
    obtain ⟨bk, o, rfl, hb, hcell⟩ := RowAt.row h (by rw [List.length_map, hl0]; simp)
    have hm : (l.map bs).map (fun s : ByteArray => s.data.toList) = l := by
      rw [List.map_map]
      conv => rhs; rw [← List.map_id l]
      rfl
    have := Try.strings_Join bk o c (l.map bs) ⟨#[13, 10]⟩ W (fun j x hx => by
      obtain ⟨hj, rfl⟩ := List.getElem?_eq_some_iff.1 hx
      have := hcell j (by rw [List.length_map] at hj ⊢; exact hj)
      rw [this, List.getElem_map, List.getElem_map]
      rfl) hb (by rw [List.length_map]; omega) (by rw [List.length_map]; exact hc) (by rw [hm]; exact Nat.le_trans hl (by decide))
    rw [hm, List.length_map] at this
    exact this
set_option maxRecDepth 100000 in
set_option maxHeartbeats 4000000 in
theorem back_any (mo : Nat) (hmo : mo < 65536) (la xa : Option Addr) (l : List (List UInt8)) (xs : List UInt8) (cl cx : Nat) (w : World) (ht : TextsAt w la l) (hsl : ∀ s ∈ l, s.length ≤ maxLen) (hcl : l.length ≤ cl) (hx : BytesAt w xa xs) (mx : Int) (hmx : w.cell? ⟨0, 0, none⟩ = some (.int .i64 mx)) :
    Calls Try.prog 4 #[.int .u16 (mo : Int), .slice la l.length cl, .slice xa xs.length cx] w fun e w' => e = .returned (.bool true) ∧ Below w.heap.size w w' := by
  have HAW := Lib.hid (fun W => awake_any W)
  by_cases hl : l.length ≤ 30
  · have hl' : ¬ (30 : Int) < (l.length : Int) := by omega
    have hrem : (mo : Int).tmod 2000 = ((mo % 2000 : Nat) : Int) := rem_of mo 2000 (by decide)
    obtain ⟨n, hn⟩ : ∃ n, n = 1 + mo % 2000 := ⟨_, rfl⟩
    have hn1 : 1 ≤ n ∧ n ≤ 2000 := by omega
    have hm0 : (0 : Int) ≤ (mo : Int) := by omega
    have hm1 : (mo : Int) < 65536 := by omega
    have hni : (1 : Int) + ((mo % 2000 : Nat) : Int) = (n : Int) := by omega
    have hs0 : (0 : Int) ≤ ((mo % 2000 : Nat) : Int) := by omega
    have hs1 : ((mo % 2000 : Nat) : Int) < 2000 := by omega
    have HT := Lib.hid ht
    have HX := Lib.hid hx
    have HMX := Lib.hid hmx
    have HSL := Lib.hid hsl
    have hg0 : 0 < w.heap.size := World.block_lt_of_cell? _ _ hmx
    generalize hN : l.length = N at *
    have HN := Lib.hid hN
    generalize hX : xs.length = X at *
    have HXL := Lib.hid hX
    generalize ((mo % 2000 : Nat) : Int) = r at *
    clear ht hx hmx hsl hn hN hX
    obtain ⟨i0, hi0, hz0, hz1, hz2⟩ := info_parts infoLn
    go_enter Try.func4, Try.ntmps4
    go_wp2
    go_loopw [8, 25] (fun wv i wr => ∃ (k : Nat) (v : Value), v = wv ∧ k ≤ N ∧ i = .int .i64 k ∧ Hid (WantW w wr v n (l.take k))) (fun _ i _ => N - (intOf i).toNat)
    case atStart => exact ⟨0, _, rfl, Nat.zero_le _, rfl, ⟨World.ownsRow_nil _ _ _ _, Below.refl _ _, fun s hs => by simp at hs⟩⟩
    case round =>
      obtain ⟨k, v, rfl, hk, rfl, HWW⟩ := hrel
      by_cases hlt : k < N
      · have hkb : k < l.length := by rw [HN.out]; exact hlt
        have hlt' : (k : Int) < (N : Int) := by omega
        have hkl : (l.take k).length = k := by rw [List.length_take]; omega
        obtain ⟨b0, off, rfl, hcx⟩ := TextsAt.at_ (show TextsAt wr la l from RowAt.below HT.out HWW.out.low) hkb
        obtain ⟨s, hs⟩ : ∃ s, s = l[k] := ⟨_, rfl⟩
        have hsm : s.length ≤ maxLen := by rw [hs]; exact HSL.out _ (List.getElem_mem hkb)
        rw [← hs] at hcx
        have HS : Hid (l[k] = s) := hs.symm
        clear hs
        have hsz : (bs s).size = s.length := rfl
        by_cases hs3 : s.length ≤ 300
        · have HCO := Lib.hid (Try.strings_Contains (bs s) ⟨#[13, 10]⟩ mx wr (by rw [hsz]; omega) ((HWW.out.low.cell (p := ⟨0, 0, none⟩) hg0).trans HMX.out))
          rw [show (bs s).data.toList = s from rfl, show (⟨#[13, 10]⟩ : ByteArray).data.toList = [13, 10] from rfl] at HCO
          have hs3' : ¬ (300 : Int) < (s.length : Int) := by omega
          cases hco : Lib.contains s [13, 10] with
          | true =>
            rw [hco] at HCO
            have HLW := Lib.hid HWW.out.low
            generalize bs s = S at *
            generalize s.length = q at *
            clear HWW
            go_wp2_with (first | (go_at_call 10; refine HCO.out.mono ?_; rintro e w' ⟨rfl, rfl⟩) | (go_at_call 7; refine (HAW.out _).mono ?_; rintro e w9 ⟨rfl, hb9⟩))
            go_ret
            exact ⟨rfl, low_trans HLW.out hb9⟩
          | false =>
            rw [hco] at HCO
            have hne := noEnd_of s hco
            obtain ⟨M, hM⟩ : ∃ M, M = min s.length n := ⟨_, rfl⟩
            have hmin : min (s.length : Int) (n : Int) = (M : Int) := by omega
            have hstr : ∀ W, (Instr.slice 9 (.string (bs s)) none (some (.int .i64 (M : Int))) none).run Try.prog W = .ok (.string (bs (s.take n))) W := fun W => by
              rw [run_slice_string_h W 9 (bs s) Try.underlying9 .i64 (M : Int) (by omega) (by rw [hsz]; omega)]
              congr 2
              rw [extract_bs, List.drop_zero]
              congr 1
              rw [show (bs s).data.toList = s from rfl, show (M : Int).toNat - 0 = min s.length n by omega]
              by_cases h : s.length ≤ n
              · rw [Nat.min_eq_left h, List.take_length, List.take_of_length_le h]
              · rw [Nat.min_eq_right (by omega)]
            obtain ⟨TT, hTT⟩ : ∃ TT, TT = bs (s.take n) := ⟨_, rfl⟩
            rw [← hTT] at hstr
            have HTT : Hid (bs (s.take n) = TT) := hTT.symm
            obtain ⟨q, hq⟩ : ∃ q, q = s.length := ⟨_, rfl⟩
            rw [← hq] at hsz hmin hs3'
            have HQ := Lib.hid hq
            clear hTT hco hM hsm hq
            generalize bs s = S at *
            go_upto_region 10 with (go_at_call 10; refine HCO.out.mono ?_; rintro e w' ⟨rfl, hw'⟩; obtain rfl : wr = w' := hw'.symm)
            clear HCO hcx
            by_cases hnq0 : n < q
            · have hnq : (n : Int) < (q : Int) := by omega
              have hnd : decide ((n : Int) < (q : Int)) = true := by simp; omega
              have hq := HQ.out
              have hdn : decide (n < s.length) = true := by simp; omega
              have hal : Below wr.heap.size wr (wr.alloc (.cells #[.string TT, .bool true] 35)) := (Below.refl _ _).alloc (Nat.le_refl _) _
              have HOW := Lib.hid (ownsRow_kept HWW.out.own hal)
              have HSW : Hid (w.heap.size ≤ (wr.alloc (.cells #[.string TT, .bool true] 35)).heap.size) := by have := HWW.out.low.size; show _ ≤ _; rw [World.size_alloc]; omega
              have HON : Hid (∀ v' W2, W2.ownsRow w.heap.size 35 2 v' (k + 1) (linCells ((l.take k).map (lineP n)) ++ [.string TT, .bool true]) → (wr.alloc (.cells #[.string TT, .bool true] 35)).grownBy W2 v.ownBlock → WantW w W2 v' n (l.take (k + 1))) := fun v' W2 h1 h2 => by
                rw [List.take_succ_eq_append_getElem hkb, HS.out]
                exact HWW.out.one s hs3 hne hal (by rw [hkl, HTT.out, hdn]; exact h1) h2
              rw [hkl] at HOW
              clear hal hdn HTT hq
              generalize linCells ((l.take k).map (lineP n)) = news at *
              go_wp2_with (at_builtin; refine wpList_append_lies _ rfl _ _ 27 rfl w.heap.size 35 i0 _ 2 24 Try.underlying27 hi0 hz0 hz1 hz2 rfl (by decide) v k news (by rfl) HOW.out ⟨wr.heap.size, 0, none⟩ 1 1 [.string TT, .bool true] (by rfl) (by rfl) (World.news_of_block (cs := #[.string TT, .bool true]) (t := 35) (fr := (0, 0)) (heap_alloc_new wr _)) ?c1 (by omega) ?c2 ?c3 HSW.out _ rfl ?_)
              case c1 => first | (intro u hu; simp at hu; rcases hu with rfl | rfl <;> rfl) | exact ⟨rfl, rfl⟩
              case c2 => unfold maxLen; omega
              case c3 => omega
              intro gg cap w1 hown hgrow _ _
              have HN1 := Lib.hid (HON.out _ _ hown hgrow)
              clear hown hgrow HON HOW HSW HWW
              go_wp2
              go_roundw
              case rel => exact ⟨k + 1, _, rfl, by omega, by go_num, HN1⟩
              case measure => simp [intOf]; omega
            · have hnq : ¬ (n : Int) < (q : Int) := by omega
              have hnd : decide ((n : Int) < (q : Int)) = false := by simp; omega
              have hq := HQ.out
              have hdn : decide (n < s.length) = false := by simp; omega
              have hal : Below wr.heap.size wr (wr.alloc (.cells #[.string TT, .bool false] 35)) := (Below.refl _ _).alloc (Nat.le_refl _) _
              have HOW := Lib.hid (ownsRow_kept HWW.out.own hal)
              have HSW : Hid (w.heap.size ≤ (wr.alloc (.cells #[.string TT, .bool false] 35)).heap.size) := by have := HWW.out.low.size; show _ ≤ _; rw [World.size_alloc]; omega
              have HON : Hid (∀ v' W2, W2.ownsRow w.heap.size 35 2 v' (k + 1) (linCells ((l.take k).map (lineP n)) ++ [.string TT, .bool false]) → (wr.alloc (.cells #[.string TT, .bool false] 35)).grownBy W2 v.ownBlock → WantW w W2 v' n (l.take (k + 1))) := fun v' W2 h1 h2 => by
                rw [List.take_succ_eq_append_getElem hkb, HS.out]
                exact HWW.out.one s hs3 hne hal (by rw [hkl, HTT.out, hdn]; exact h1) h2
              rw [hkl] at HOW
              clear hal hdn HTT hq
              generalize linCells ((l.take k).map (lineP n)) = news at *
              go_wp2_with (at_builtin; refine wpList_append_lies _ rfl _ _ 27 rfl w.heap.size 35 i0 _ 2 24 Try.underlying27 hi0 hz0 hz1 hz2 rfl (by decide) v k news (by rfl) HOW.out ⟨wr.heap.size, 0, none⟩ 1 1 [.string TT, .bool false] (by rfl) (by rfl) (World.news_of_block (cs := #[.string TT, .bool false]) (t := 35) (fr := (0, 0)) (heap_alloc_new wr _)) ?c1 (by omega) ?c2 ?c3 HSW.out _ rfl ?_)
              case c1 => first | (intro u hu; simp at hu; rcases hu with rfl | rfl <;> rfl) | exact ⟨rfl, rfl⟩
              case c2 => unfold maxLen; omega
              case c3 => omega
              intro gg cap w1 hown hgrow _ _
              have HN1 := Lib.hid (HON.out _ _ hown hgrow)
              clear hown hgrow HON HOW HSW HWW
              go_wp2
              go_roundw
              case rel => exact ⟨k + 1, _, rfl, by omega, by go_num, HN1⟩
              case measure => simp [intOf]; omega
        · have hs3' : (300 : Int) < (s.length : Int) := by omega
          have HLW := Lib.hid HWW.out.low
          generalize bs s = S at *
          generalize s.length = q at *
          clear HWW
          go_wp2_with (go_at_call 7; refine (HAW.out _).mono ?_; rintro e w9 ⟨rfl, hb9⟩)
          go_ret
          exact ⟨rfl, low_trans HLW.out hb9⟩
      · have hkN : k = N := by omega
        have hbt : l.take k = l := by rw [hkN, ← HN.out, List.take_length]
        have hlt' : ¬ (k : Int) < (N : Int) := by omega
        rw [hbt] at HWW
        have hNE : ∀ s ∈ l, NoEnd s := fun s hs => (HWW.out.ok s hs).2
        have hjl := joinEnds_len l (fun s hs => (HWW.out.ok s hs).1)
        have hje := join_ends l
        have hjl2 : (Lib.join l [13, 10]).length ≤ (joinEnds l).length := by rw [← hje, List.length_append]; omega
        have hjn : (joinEnds l).length ≤ 10000 := by rw [HN.out] at hjl; omega
        have HJ := Lib.hid (fun W (hW : Below w.heap.size w W) => join_at la l cl (by rw [HN.out]; exact hcl) W (RowAt.below HT.out hW) (by omega) (by rw [HN.out]; omega))
        rw [HN.out] at HJ
        obtain ⟨E, hE⟩ : ∃ E, E = bs (if l = [] then [] else [13, 10]) := ⟨_, rfl⟩
        have hJE : bs (Lib.join l [13, 10]) ++ E = bs (joinEnds l) := by
          rw [hE, ← hje]
          apply ByteArray.ext
          simp [bs]
        have hEs : E.size ≤ 2 := by rw [hE]; split <;> decide
        have hJs : (bs (Lib.join l [13, 10])).size ≤ 10000 := Nat.le_trans hjl2 hjn
        have hraw := rawP_lines l hNE
        have e1 : frTold n (joinEnds l) = l.map (lineP n) := by unfold frTold; rw [hraw]
        have HALL := Lib.hid (fun W (hW : Below w.heap.size w W) (a : Option Addr) (c : Nat) (hb : BytesAt W a (joinEnds l)) (hc : (joinEnds l).length ≤ c) => all_at n hn1.1 hn1.2 a (joinEnds l) c xa xs cx W hb hc (RowAt.below HX.out hW) (by omega))
        rw [hraw, e1, List.length_map, HN.out, HXL.out] at HALL
        rw [show frT n [] = #[.int .i64 (n : Int), .string ⟨#[]⟩, .bool false, .bool false] from by rw [frT_nil]; rfl] at HALL
        obtain ⟨Aw, cw, rfl, -⟩ := own_form HWW.out.own
        have hwr : RowAt wr Aw (linCells (l.map (lineP n))) := by
          have h1 := HWW.out.own
          rw [show l.length = (l.map (lineP n)).length by rw [List.length_map]] at h1
          refine row_of_own h1 ?_
          rw [linCells_len, List.length_map, HN.out]
          unfold maxLen
          omega
        have HLW := Lib.hid HWW.out.low
        have HWR := Lib.hid hwr
        have HLN : Hid ((l.map (lineP n)).length = N) := by show _ = _; rw [List.length_map, HN.out]
        rw [HN.out]
        have HE := Lib.hid hE
        clear hE hje hjl hjl2 hNE hraw e1 hwr HWW hbt
        generalize bs (Lib.join l [13, 10]) = J at *
        generalize l.map (lineP n) = ls at *
        have HJE := Lib.hid hJE
        have HEs := Lib.hid hEs
        have HJs := Lib.hid hJs
        have Hjn := Lib.hid hjn
        clear hJE hEs hJs hjn
        by_cases h0 : l = []
        · have hN0 : N = 0 := by rw [← HN.out, h0]; rfl
          have hE2 : E = ⟨#[]⟩ := by rw [HE.out, if_pos h0]; rfl
          clear h0
          subst hE2
          subst hN0
          go_upto_region 15 with (fail)
          have hJE := HJE.out
          have hJs := HJs.out
          have hsz1 : ¬ 9223372036854775807 < J.size + 0 := by omega
          go_wp2_with (go_at_call 11; refine (HJ.out _ HLW.out).mono ?_)
          first | (rintro e w5 ⟨rfl, hb5⟩; have hc5 := hb5) | (rintro e w5 rfl hb5; have hc5 := hb5)
          have HL5 := Lib.hid (low_trans HLW.out hc5)
          have HW5 := Lib.hid (RowAt.below HWR.out hc5)
          clear hb5 hc5 HLW HWR HJ
          have hcv := Lib.run_convert_string_bytes (P := Try.prog) w5 9 23 5 (bs (joinEnds l)) (u := .string) Try.underlying9 Try.underlying23 Try.underlying5
          have hq := OwnQ.conv w5 0 (joinEnds l) (by have := Hjn.out; unfold maxLen; omega) (Nat.zero_le _)
          have hbW : Below w5.heap.size w5 (Lib.bytesWorld w5 5 (bs (joinEnds l))) := ⟨rfl, rfl, rfl, by rw [Lib.bytesWorld_size]; omega, fun k hk => Lib.bytesWorld_at_old _ _ _ k hk⟩
          rw [bs_size] at hcv
          generalize grownCap w5 (joinEnds l).length 0 5 = cp at hcv hq
          generalize Lib.bytesWorld w5 5 (bs (joinEnds l)) = W6 at hcv hq hbW
          have HA6 := Lib.hid (HALL.out W6 (low_trans HL5.out hbW) _ _ hq.bytes hq.len)
          have HL6 := Lib.hid (low_trans HL5.out hbW)
          have HW6 := Lib.hid (RowAt.below HW5.out hbW)
          clear hq hbW HALL HL5 HW5
          generalize (joinEnds l).length = jl at hcv HA6
          generalize bs (joinEnds l) = Z at hcv hJE
          go_upto_region 16 with (go_at_call 8; refine HA6.out.mono ?_; rintro e w7 ⟨A2, c2, rfl, ra2, hb7⟩)
          have hbA : Below W6.heap.size W6 (w7.alloc (.cells #[.int .i64 (n : Int), .string ⟨#[]⟩, .bool false, .bool false] 26)) := hb7.alloc hb7.size _
          have HF8 : Hid (Blk (w7.alloc (.cells #[.int .i64 (n : Int), .string ⟨#[]⟩, .bool false, .bool false] 26)) w7.heap.size 26 #[.int .i64 (n : Int), .string ⟨#[]⟩, .bool false, .bool false]) := Blk.new _ _ _
          have HR8 := Lib.hid (RowAt.below ra2 ((Below.refl w7.heap.size w7).alloc (Nat.le_refl _) (.cells #[.int .i64 (n : Int), .string ⟨#[]⟩, .bool false, .bool false] 26)))
          have HW8 := Lib.hid (RowAt.below HW6.out hbA)
          have HL8 := Lib.hid (low_trans HL6.out hbA)
          clear hbA hb7 ra2 HW6 HL6 HA6
          generalize w7.alloc (.cells #[.int .i64 (n : Int), .string ⟨#[]⟩, .bool false, .bool false] 26) = W8 at *
          generalize w7.heap.size = f1 at *
          have hS := same_rows A2 Aw c2 cw ls W8 HR8.out HW8.out (by rw [HLN.out]; omega)
          rw [HLN.out] at hS
          go_wp2_with (go_at_call 9; refine hS.mono ?_)
          first | (rintro e w9 ⟨rfl, hb9⟩; have hc9 := hb9) | (rintro e w9 rfl hb9; have hc9 := hb9)
          clear hS
          have hF9 := HF8.out.below hc9 HF8.out.lt
          have HL9 := Lib.hid (low_trans HL8.out hc9)
          have p0 := hF9.cell 0
          have p1 := hF9.cell 1
          have p2 := hF9.cell 2
          have p3 := hF9.cell 3
          simp at p0 p1 p2 p3
          clear hb9 hc9 hF9 HF8 HR8 HW8 HL8
          have hR := rest_any (n : Int) [] false false w9 (by decide)
          rw [show frCells (n : Int) [] false false = #[.int .i64 (n : Int), .string ⟨#[]⟩, .bool false, .bool false] from rfl, show bs (restP [] false) = ⟨#[]⟩ from rfl] at hR
          go_wp2_with (go_at_call 12; refine hR.mono ?_)
          first | (rintro e w10 ⟨rfl, hb10⟩; have hc10 := hb10) | (rintro e w10 rfl hb10; have hc10 := hb10)
          have HL10 := Lib.hid (low_trans HL9.out hc10)
          clear hR hb10 hc10
          go_wp2_with (go_at_call 7; refine (HAW.out _).mono ?_)
          first | (rintro e w11 ⟨rfl, hb11⟩; have hc11 := hb11) | (rintro e w11 rfl hb11; have hc11 := hb11)
          have HL11 := Lib.hid (low_trans HL10.out hc11)
          clear hb11 hc11
          go_wp2
          go_ret
          exact ⟨rfl, HL11.out⟩
        · have hN0 : 0 < N := by rw [← HN.out]; exact List.length_pos_iff.2 h0
          have hN1 : (0 : Int) < (N : Int) := by omega
          have hE2 : E = ⟨#[13, 10]⟩ := by rw [HE.out, if_neg h0]; rfl
          clear h0
          subst hE2
          go_upto_region 15 with (fail)
          have hJE := HJE.out
          have hJs := HJs.out
          have hsz1 : ¬ 9223372036854775807 < J.size + 2 := by omega
          go_wp2_with (go_at_call 11; refine (HJ.out _ HLW.out).mono ?_)
          first | (rintro e w5 ⟨rfl, hb5⟩; have hc5 := hb5) | (rintro e w5 rfl hb5; have hc5 := hb5)
          have HL5 := Lib.hid (low_trans HLW.out hc5)
          have HW5 := Lib.hid (RowAt.below HWR.out hc5)
          clear hb5 hc5 HLW HWR HJ
          have hcv := Lib.run_convert_string_bytes (P := Try.prog) w5 9 23 5 (bs (joinEnds l)) (u := .string) Try.underlying9 Try.underlying23 Try.underlying5
          have hq := OwnQ.conv w5 0 (joinEnds l) (by have := Hjn.out; unfold maxLen; omega) (Nat.zero_le _)
          have hbW : Below w5.heap.size w5 (Lib.bytesWorld w5 5 (bs (joinEnds l))) := ⟨rfl, rfl, rfl, by rw [Lib.bytesWorld_size]; omega, fun k hk => Lib.bytesWorld_at_old _ _ _ k hk⟩
          rw [bs_size] at hcv
          generalize grownCap w5 (joinEnds l).length 0 5 = cp at hcv hq
          generalize Lib.bytesWorld w5 5 (bs (joinEnds l)) = W6 at hcv hq hbW
          have HA6 := Lib.hid (HALL.out W6 (low_trans HL5.out hbW) _ _ hq.bytes hq.len)
          have HL6 := Lib.hid (low_trans HL5.out hbW)
          have HW6 := Lib.hid (RowAt.below HW5.out hbW)
          clear hq hbW HALL HL5 HW5
          generalize (joinEnds l).length = jl at hcv HA6
          generalize bs (joinEnds l) = Z at hcv hJE
          go_upto_region 16 with (go_at_call 8; refine HA6.out.mono ?_; rintro e w7 ⟨A2, c2, rfl, ra2, hb7⟩)
          have hbA : Below W6.heap.size W6 (w7.alloc (.cells #[.int .i64 (n : Int), .string ⟨#[]⟩, .bool false, .bool false] 26)) := hb7.alloc hb7.size _
          have HF8 : Hid (Blk (w7.alloc (.cells #[.int .i64 (n : Int), .string ⟨#[]⟩, .bool false, .bool false] 26)) w7.heap.size 26 #[.int .i64 (n : Int), .string ⟨#[]⟩, .bool false, .bool false]) := Blk.new _ _ _
          have HR8 := Lib.hid (RowAt.below ra2 ((Below.refl w7.heap.size w7).alloc (Nat.le_refl _) (.cells #[.int .i64 (n : Int), .string ⟨#[]⟩, .bool false, .bool false] 26)))
          have HW8 := Lib.hid (RowAt.below HW6.out hbA)
          have HL8 := Lib.hid (low_trans HL6.out hbA)
          clear hbA hb7 ra2 HW6 HL6 HA6
          generalize w7.alloc (.cells #[.int .i64 (n : Int), .string ⟨#[]⟩, .bool false, .bool false] 26) = W8 at *
          generalize w7.heap.size = f1 at *
          have hS := same_rows A2 Aw c2 cw ls W8 HR8.out HW8.out (by rw [HLN.out]; omega)
          rw [HLN.out] at hS
          go_wp2_with (go_at_call 9; refine hS.mono ?_)
          first | (rintro e w9 ⟨rfl, hb9⟩; have hc9 := hb9) | (rintro e w9 rfl hb9; have hc9 := hb9)
          clear hS
          have hF9 := HF8.out.below hc9 HF8.out.lt
          have HL9 := Lib.hid (low_trans HL8.out hc9)
          have p0 := hF9.cell 0
          have p1 := hF9.cell 1
          have p2 := hF9.cell 2
          have p3 := hF9.cell 3
          simp at p0 p1 p2 p3
          clear hb9 hc9 hF9 HF8 HR8 HW8 HL8
          have hR := rest_any (n : Int) [] false false w9 (by decide)
          rw [show frCells (n : Int) [] false false = #[.int .i64 (n : Int), .string ⟨#[]⟩, .bool false, .bool false] from rfl, show bs (restP [] false) = ⟨#[]⟩ from rfl] at hR
          go_wp2_with (go_at_call 12; refine hR.mono ?_)
          first | (rintro e w10 ⟨rfl, hb10⟩; have hc10 := hb10) | (rintro e w10 rfl hb10; have hc10 := hb10)
          have HL10 := Lib.hid (low_trans HL9.out hc10)
          clear hR hb10 hc10
          go_wp2_with (go_at_call 7; refine (HAW.out _).mono ?_)
          first | (rintro e w11 ⟨rfl, hb11⟩; have hc11 := hb11) | (rintro e w11 rfl hb11; have hc11 := hb11)
          have HL11 := Lib.hid (low_trans HL10.out hc11)
          clear hb11 hc11
          go_wp2
          go_ret
          exact ⟨rfl, HL11.out⟩
  · have hl' : (30 : Int) < (l.length : Int) := by omega
    generalize l.length = N at *
    clear ht hx
    go_enter Try.func4, Try.ntmps4
    go_wp2_with (go_at_call 7; refine (HAW.out _).mono ?_; rintro e w1 ⟨rfl, hb1⟩)
    go_ret
    exact ⟨rfl, hb1⟩
end Go.Proofs.Ytdgkedbnokdnfaa
