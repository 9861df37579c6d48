/-
  The contract of frankinglaw12.FrameBare. Conditions: the slices lie in memory.
-/
import Derived.Test.YtdgkedbnokdnfaaFcW
import Derived.Test.YtdgkedbnokdnfaaShelf
import Derived.Deep.DeepCutAuto
import Derived.Deep.RegionLaw
import Derived.Deep.AppendLies
namespace Go.Proofs.Ytdgkedbnokdnfaa
open Go.RowKit

theorem trim_body (B : List UInt8) : (⟨(Lib.trimSuffix (bs B).data.toList (⟨#[13]⟩ : ByteArray).data.toList).toArray⟩ : ByteArray) = bs (bodyP B) := by
  show bs (Lib.trimSuffix B [13]) = _
  congr 1
  unfold Lib.trimSuffix Lib.hasSuffix
  cases hc : lastCr B with
  | true =>
    have h := lastCr_end hc
    rw [if_pos (by rw [List.isSuffixOf_iff_suffix]; exact ⟨bodyP B, h.symm⟩)]
    conv => lhs; rw [h]
    simp
  | false =>
    rw [if_neg, bodyP_no hc]
    intro hs
    rw [List.isSuffixOf_iff_suffix] at hs
    obtain ⟨u, hu⟩ := hs
    rw [← hu, lastCr_snoc] at hc
    simp at hc
theorem body_len (B : List UInt8) : (bodyP B).length ≤ B.length ∧ B.length ≤ (bodyP B).length + 1 := by
  unfold bodyP
  split <;> simp <;> omega
theorem held_prefix (B : List UInt8) (n : Nat) : Lib.hasPrefix (bs B).data.toList (bs ((bodyP B).take n)).data.toList = true := by
  show ((bodyP B).take n).isPrefixOf B = true
  rw [List.isPrefixOf_iff_prefix]
  refine (List.take_prefix _ _).trans ?_
  unfold bodyP
  split
  · exact List.dropLast_prefix _
  · exact List.prefix_refl _
theorem rest_bare (B : List UInt8) : restP (bodyP B) (lastCr B) = B := by
  unfold restP
  cases hc : lastCr B with
  | true => rw [if_pos rfl]; exact (lastCr_end hc).symm
  | false => rw [if_neg (by simp), bodyP_no hc]
theorem bare_raw (b : List UInt8) : rawP [] (bareP b) = (bareP b, []) := by
  have := rawP_noEnd (bareP b) [] (by simpa using bareP_noEnd b)
  simpa using this
/-- a slice of one's own, and its capacity -/
theorem own_cap {w : World} {B n : Nat} {e : TypeId} {v : Value} {xs : List Value} (h : w.ownsRow B e 1 v n xs) : ∃ A c, v = .slice A n c ∧ n ≤ c := by
  rcases h.2 with ⟨rfl, rfl⟩ | ⟨g, cap, cur, rfl, hg, _, h3, _⟩
  · exact ⟨none, 0, rfl, Nat.le_refl _⟩
  · exact ⟨_, _, rfl, h3⟩
/-- the bytes kept so far -/
structure BareW (w W : World) (v : Value) (T : List UInt8) : Prop where
  own : W.ownsRow w.heap.size 5 1 v T.length (T.map byteV)
  low : Below w.heap.size w W
theorem BareW.bytes {w W : World} {A : Option Addr} {n c : Nat} {T : List UInt8} (h : BareW w W (.slice A n c) T) (hn : T.length = n) (hm : n ≤ 100000) : BytesAt W A T := by
  have := h.own
  rw [hn] at this
  exact row_of_own this (by rw [List.length_map]; unfold maxLen; omega)
theorem bareS_last (T : List UInt8) (c : UInt8) : bareS T c = if lastCr T = true ∧ c = 10 then T else T ++ [c] := by
  unfold bareS lastCr
  simp
set_option maxRecDepth 100000 in
set_option maxHeartbeats 4000000 in
theorem bare_any (mo : Nat) (hmo : mo < 65536) (ba xa : Option Addr) (b xs : List UInt8) (cb cx : Nat) (w : World) (hb : BytesAt w ba b) (hx : BytesAt w xa xs) :
    Calls Try.prog 5 #[.int .u16 (mo : Int), .slice ba b.length cb, .slice xa xs.length cx] w fun e w' => e = .returned (.bool true) ∧ Below w.heap.size w w' := by
  have HAW := Lib.hid (fun W => awake_any W)
  by_cases hl : b.length ≤ 500
  · have hl' : ¬ (500 : Int) < (b.length : Int) := by omega
    have hrem : (mo : Int).tmod 2000 = ((mo % 2000 : Nat) : Int) := rem_of mo 2000 (by decide)
    obtain ⟨n, hn⟩ : ∃ n, n = 1 + mo % 2000 := ⟨_, rfl⟩
    have hn1 : 1 ≤ n ∧ n ≤ 2000 := by omega
    have hm0 : (0 : Int) ≤ (mo : Int) := by omega
    have hm1 : (mo : Int) < 65536 := by omega
    have hni : (1 : Int) + ((mo % 2000 : Nat) : Int) = (n : Int) := by omega
    have hs0 : (0 : Int) ≤ ((mo % 2000 : Nat) : Int) := by omega
    have hs1 : ((mo % 2000 : Nat) : Int) < 2000 := by omega
    have HB := Lib.hid hb
    have HX := Lib.hid hx
    generalize hN : b.length = N at *
    have HN := Lib.hid hN
    generalize hX : xs.length = X at *
    have HXL := Lib.hid hX
    generalize ((mo % 2000 : Nat) : Int) = r at *
    clear hb hx hn hN hX
    obtain ⟨i0, hi0, hz0, hz1, hz2⟩ := info_parts info8
    go_enter Try.func5, Try.ntmps5
    go_wp2
    go_loopw [8, 25] (fun bv i wr => ∃ (k : Nat) (vb : Value), vb = bv ∧ k ≤ N ∧ i = .int .i64 k ∧ Hid (BareW w wr vb (bareP (b.take k)))) (fun _ i _ => N - (intOf i).toNat)
    case atStart => exact ⟨0, _, rfl, Nat.zero_le _, rfl, ⟨World.ownsRow_nil _ _ _ _, Below.refl _ _⟩⟩
    case round =>
      obtain ⟨k, vb, rfl, hk, rfl, HBW⟩ := hrel
      by_cases hlt : k < N
      · have hkb : k < b.length := by rw [HN.out]; exact hlt
        have hlt' : (k : Int) < (N : Int) := by omega
        obtain ⟨b0, off, rfl, hcx⟩ := BytesAt.at_ (show BytesAt wr ba b from RowAt.below HB.out HBW.out.low) hkb
        have HNX : Hid (bareP (b.take (k + 1)) = bareS (bareP (b.take k)) b[k]) := by
          show _ = _
          rw [List.take_succ_eq_append_getElem hkb, bareP_snoc]
        rw [bareS_last] at HNX
        have htl : (bareP (b.take k)).length ≤ 500 := by
          have h1 := bareP_len (b.take k)
          rw [List.length_take] at h1
          omega
        generalize bareP (b.take k) = T at *
        generalize b[k] = x at *
        obtain ⟨A, c, rfl, hcap⟩ := own_cap HBW.out.own
        go_upto_region 8 with (fail)
        go_cut [44] (fun v wx => v = .bool (!(lastCr T && decide (x = 10))) ∧ wr = wx)
        case first =>
          by_cases hx : x = 10
          · have hx' : ((x.toNat : Nat) : Int) = 10 := by rw [hx]; rfl
            rw [hx'] at hcx
            cases hT : T with
            | nil =>
              subst hT
              have hc0 : lastCr [] = false := rfl
              go_wp2
              go_meet
              exact ⟨by rw [hc0]; rfl, rfl⟩
            | cons y ys =>
              have hpos : 0 < T.length := by rw [hT]; simp
              rw [← hT]
              obtain ⟨p, hp⟩ : ∃ p, T.length = p + 1 := ⟨T.length - 1, by omega⟩
              have hby := HBW.out.bytes rfl (by omega)
              obtain ⟨g, o, rfl, hlast⟩ := hby.at_ (k := p) (by omega)
              have hgl : T.getLast? = some (T[p]'(by omega)) := by
                rw [List.getLast?_eq_getElem?, show T.length - 1 = p by omega]
                exact List.getElem?_eq_getElem _
              generalize T[p]'(by omega) = z at *
              have hp1 : (T.length : Int) = (p : Int) + 1 := by omega
              have hcz : lastCr T = decide (z = 13) := by unfold lastCr; rw [hgl]; simp
              clear hT hby hgl
              generalize T.length = q at *
              subst hp
              have hne : ¬ ((p : Int) + 1 = 0) := by omega
              have hned : decide ((p : Int) + 1 = 0) = false := by simp; omega
              have hneb : ((p : Int) + 1 == 0) = false := by simp; omega
              by_cases hz : z = 13
              · have hz' : ((z.toNat : Nat) : Int) = 13 := by rw [hz]; rfl
                rw [hz'] at hlast
                go_wp2
                go_meet
                exact ⟨by rw [hcz]; simp [hz, hx], rfl⟩
              · have hz' : ¬ ((z.toNat : Nat) : Int) = 13 := fun h => hz (by apply UInt8.toNat_inj.1; show z.toNat = 13; omega)
                have hzb : (((z.toNat : Nat) : Int) == 13) = false := by simpa using hz'
                go_wp2
                go_meet
                exact ⟨by rw [hcz]; simp [hz, hx, hz'], rfl⟩
          · have hx' : ¬ ((x.toNat : Nat) : Int) = 10 := fun h => hx (by apply UInt8.toNat_inj.1; show x.toNat = 10; omega)
            have hxb : (((x.toNat : Nat) : Int) == 10) = false := by simpa using hx'
            go_wp2
            go_meet
            exact ⟨by simp [hx], rfl⟩
        case rest =>
          obtain ⟨rfl, rfl⟩ := hcut
          by_cases hs : lastCr T = true ∧ x = 10
          · rw [if_pos hs] at HNX
            rw [show (!(lastCr T && decide (x = 10))) = false from by simp [hs.1, hs.2]]
            have HBN : Hid (BareW w wr (.slice A T.length c) (bareP (b.take (k + 1)))) := by rw [HNX.out]; exact HBW.out
            go_wp2
            go_roundw
            case rel => exact ⟨k + 1, _, rfl, by omega, by go_num, HBN⟩
            case measure => simp [intOf]; omega
          · rw [if_neg hs] at HNX
            rw [show (!(lastCr T && decide (x = 10))) = true from by cases h9 : lastCr T <;> simp_all]
            have hal := HBW.out.own.alloc (.cells #[byteV x] 5)
            have HAL := Lib.hid hal
            have HSW : Hid (w.heap.size ≤ (wr.alloc (.cells #[byteV x] 5)).heap.size) := by have := HBW.out.low.size; show _ ≤ _; rw [World.size_alloc]; omega
            have HLO : Hid (Below w.heap.size w (wr.alloc (.cells #[byteV x] 5))) := HBW.out.low.alloc HBW.out.low.size _
            have HNW := Lib.hid (cell_one_new wr (byteV x) 5)
            have HLT := Lib.hid (HBW.out.own.lt)
            unfold byteV at HAL HSW HLO HNW
            clear hal
            go_wp2_with (at_builtin; refine wpList_append_lies _ rfl _ _ 23 rfl w.heap.size 5 i0 (.int .u8 0) 1 1 Try.underlying23 hi0 hz0 hz1 hz2 rfl (by decide) (.slice A T.length c) T.length _ (by rfl) HAL.out ⟨wr.heap.size, 0, none⟩ 1 1 [.int .u8 ((x.toNat : Nat) : Int)] (by rfl) (by rfl) HNW.out ?c1 (by omega) ?c2 ?c3 HSW.out _ rfl ?_)
            case c1 => intro u hu; simp at hu; subst hu; rfl
            case c2 => unfold maxLen; omega
            case c3 => omega
            intro gg cap w1 hown hgrow _ _
            have HBN : Hid (BareW w w1 (.slice (some ⟨gg, 0, none⟩) (T.length + 1) cap) (bareP (b.take (k + 1)))) := by
              rw [HNX.out]
              refine ⟨?_, HLO.out.grown hgrow HSW.out (fun q e => (HLT.out q e).1)⟩
              rw [List.length_append, List.map_append]
              exact hown
            clear hown hgrow HLO HSW HAL HNW HBW
            go_wp2
            go_roundw
            case rel => exact ⟨k + 1, _, rfl, by omega, by go_num, HBN⟩
            case measure => simp [intOf]; omega
      · have hkN : k = N := by omega
        have hbt : b.take k = b := by rw [hkN, ← HN.out, List.take_length]
        have hlt' : ¬ (k : Int) < (N : Int) := by omega
        rw [hbt] at HBW
        obtain ⟨A, c, rfl, hcap⟩ := own_cap HBW.out.own
        have hbl : (bareP b).length ≤ 500 := by have := bareP_len b; have := HN.out; omega
        have hbb := HBW.out.bytes rfl (by omega)
        have HA := Lib.hid (all_at n hn1.1 hn1.2 A (bareP b) c xa xs cx wr hbb hcap (RowAt.below HX.out HBW.out.low) (by omega))
        have e1 : frTold n (bareP b) = [] := by unfold frTold; rw [bare_raw]; rfl
        rw [bare_raw, e1, HXL.out] at HA
        unfold frT frCells at HA
        have HBB := Lib.hid hbb
        have HLW := Lib.hid HBW.out.low
        clear HBW hbb e1 hbt
        generalize bareP b = T at *
        go_upto_region 12 with (go_at_call 8; refine HA.out.mono ?_; rintro e w1 ⟨A1, c1, rfl, ra1, hb1⟩)
        have hbA : Below wr.heap.size wr (w1.alloc (.cells #[.int .i64 (n : Int), .string (bs ((bodyP T).take n)), .bool (decide (n < (bodyP T).length)), .bool (lastCr T)] 26)) := hb1.alloc hb1.size _
        have HF : Hid (Blk (w1.alloc (.cells #[.int .i64 (n : Int), .string (bs ((bodyP T).take n)), .bool (decide (n < (bodyP T).length)), .bool (lastCr T)] 26)) w1.heap.size 26 #[.int .i64 (n : Int), .string (bs ((bodyP T).take n)), .bool (decide (n < (bodyP T).length)), .bool (lastCr T)]) := Blk.new _ _ _
        have HBC := Lib.hid (RowAt.below HBB.out hbA)
        have HLC := Lib.hid (low_trans HLW.out hbA)
        clear hbA hb1 ra1 HBB HLW
        generalize w1.alloc (.cells #[.int .i64 (n : Int), .string (bs ((bodyP T).take n)), .bool (decide (n < (bodyP T).length)), .bool (lastCr T)] 26) = W3 at *
        generalize w1.heap.size = f1 at *
        have hcv := conv_any W3 A T c HBC.out
        have hF := HF.out
        have p1 := hF.cell 1
        have p2 := hF.cell 2
        simp at p1 p2
        have hSz : (bs T).size = T.length := rfl
        have hBz : (bs (bodyP T)).size = (bodyP T).length := rfl
        have hHz : (bs ((bodyP T).take n)).size = min n (bodyP T).length := List.length_take
        have HTR := Lib.hid (fun W => Try.strings_TrimSuffix (bs T) ⟨#[13]⟩ W (by rw [hSz]; omega))
        rw [trim_body] at HTR
        have HPF := Lib.hid (fun W => Try.strings_HasPrefix (bs T) (bs ((bodyP T).take n)) W)
        rw [held_prefix] at HPF
        have hbd := body_len T
        have HRE := Lib.hid (fun W => rest_any (n : Int) ((bodyP T).take n) (decide (n < (bodyP T).length)) (lastCr T) W (by rw [List.length_take]; omega))
        unfold frCells at HRE
        have hrb := rest_bare T
        by_cases hbig : n < T.length
        · have hbig' : (n : Int) < (T.length : Int) := by omega
          have hHn : (bs ((bodyP T).take n)).size = n := by rw [hHz]; omega
          clear hHz hrb HRE
          generalize bs ((bodyP T).take n) = HL at *
          generalize bs (bodyP T) = BD at *
          generalize bs T = S at *
          by_cases hov : n < (bodyP T).length
          · rw [show decide (n < (bodyP T).length) = true from by simp [hov]] at p2
            have hgt : (n : Int) < ((bodyP T).length : Int) := by omega
            have hgd : decide ((n : Int) < ((bodyP T).length : Int)) = true := by simp; omega
            have bD : Blk W3.drew f1 26 _ := HF.out
            have d1 := bD.cell 1
            have d2 := bD.cell 2
            simp at d1 d2
            rw [show decide (n < (bodyP T).length) = true from by simp [hov]] at d2
            clear bD hF HF
            generalize (bodyP T).length = dd at *
            generalize T.length = q at *
            go_wp2
            go_region_law (go_simp; first | (go_at_call 13; refine (HTR.out _).mono ?_; rintro e w4 ⟨rfl, rfl⟩) | (go_at_call 14; refine (HPF.out _).mono ?_; rintro e w4 ⟨rfl, rfl⟩) | (go_at_call 7; refine (HAW.out _).mono ?_; rintro e w5 ⟨rfl, hb5⟩; have HL5 := Lib.hid (low_trans HLC.out (Below.trans ((Below.refl _ _).drew) hb5)); clear hb5))
            all_goals
              go_wp2
              go_ret
              exact ⟨rfl, HL5.out⟩
          · rw [show decide (n < (bodyP T).length) = false from by simp; omega] at p2
            have hgt : ¬ (n : Int) < ((bodyP T).length : Int) := by omega
            have hgd : decide ((n : Int) < ((bodyP T).length : Int)) = false := by simp; omega
            have bD : Blk W3.drew f1 26 _ := HF.out
            have d1 := bD.cell 1
            have d2 := bD.cell 2
            simp at d1 d2
            rw [show decide (n < (bodyP T).length) = false from by simp; omega] at d2
            clear bD hF HF
            generalize (bodyP T).length = dd at *
            generalize T.length = q at *
            go_wp2
            go_region_law (go_simp; first | (go_at_call 13; refine (HTR.out _).mono ?_; rintro e w4 ⟨rfl, rfl⟩) | (go_at_call 14; refine (HPF.out _).mono ?_; rintro e w4 ⟨rfl, rfl⟩) | (go_at_call 7; refine (HAW.out _).mono ?_; rintro e w5 ⟨rfl, hb5⟩; have HL5 := Lib.hid (low_trans HLC.out (Below.trans ((Below.refl _ _).drew) hb5)); clear hb5))
            all_goals
              go_wp2
              go_ret
              exact ⟨rfl, HL5.out⟩
        · have hbig' : ¬ (n : Int) < (T.length : Int) := by omega
          rw [show decide (n < (bodyP T).length) = false from by simp; omega] at p2 HRE
          rw [List.take_of_length_le (by omega), hrb] at HRE
          rw [List.take_of_length_le (by omega)] at p1
          have p0 := hF.cell 0
          have p3 := hF.cell 3
          simp at p0 p3
          clear hHz hrb hF HF HTR HPF
          generalize bs (bodyP T) = BD at *
          generalize bs T = S at *
          generalize T.length = q at *
          go_wp2_with (go_at_call 12; refine (HRE.out _).mono ?_)
          first | (rintro e w4 ⟨rfl, hb4⟩; have hc4 := hb4) | (rintro e w4 rfl hb4; have hc4 := hb4)
          have HL4 := Lib.hid (low_trans HLC.out hc4)
          clear hb4 hc4
          go_wp2_with (go_at_call 7; refine (HAW.out _).mono ?_)
          first | (rintro e w5 ⟨rfl, hb5⟩; have hc5 := hb5) | (rintro e w5 rfl hb5; have hc5 := hb5)
          have HL5 := Lib.hid (low_trans HL4.out hc5)
          clear hb5 hc5
          go_wp2
          go_ret
          exact ⟨rfl, HL5.out⟩
  · have hl' : (500 : Int) < (b.length : Int) := by omega
    generalize b.length = N at *
    clear hb hx
    go_enter Try.func5, Try.ntmps5
    go_wp2_with (go_at_call 7; refine (HAW.out _).mono ?_; rintro e w1 ⟨rfl, hb1⟩)
    go_ret
    exact ⟨rfl, hb1⟩
end Go.Proofs.Ytdgkedbnokdnfaa
