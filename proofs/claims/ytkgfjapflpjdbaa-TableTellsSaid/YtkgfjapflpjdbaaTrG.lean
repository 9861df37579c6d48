/-
  The contract of frankingref10.Pack. Conditions: the table lies in memory.
-/
import Derived.Test.YtkgfjapflpjdbaaTrF
import Derived.Deep.Onto
namespace Go.Proofs.Ytkgfjapflpjdbaa
open Go.RowKit

theorem app_big {ops : Array Oper} {rest : List Oper} {o : Oper} {act : Act} {Q : Exit → Act → World → Prop} {w : World} (hgd : o.guard = none) (s x : Operand)
    (ho : o.op = .call { callee := .builtin .append, args := #[s, x], argTypes := #[31, 31] })
    (W1 : World) (v : Value) (l : List UInt8) (hs : act.eval s = v) (hv : OutAt W1 w v l)
    (a : Addr) (m c : Nat) (r : List UInt8) (hx : act.eval x = .slice (some a) m c) (hr : r.length = m) (hb : BytesAt w (some a) r) (hle : l.length + m ≤ 100000000)
    (h : ∀ v' w', OutAt W1 w' v' (l ++ r) → wpList Try.prog ops Q rest (act.put o.dst v') w') : wpList Try.prog ops Q (o :: rest) act w := by
  obtain ⟨i0, hi, hz0, hz1, hz2⟩ := info_parts info8
  refine wpList_append_own w hgd s x 31 ho W1.heap.size 5 i0 (.int .u8 0) 1 1 Try.underlying31 hi hz0 hz1 hz2 rfl (by decide) v l.length (l.map byteV) hs hv.own a m c (r.map byteV) hx (by rw [List.length_map, hr, Nat.mul_one]) ?_ ?_ (by unfold maxLen; omega) (by omega) hv.low.size ?_
  · intro j u hj
    obtain ⟨hj2, rfl⟩ := List.getElem?_eq_some_iff.1 hj
    obtain ⟨b, off, e1, e2, e3⟩ := RowAt.row hb (by omega)
    injection e1 with e1
    subst e1
    rw [Addr.add_mid]
    exact e3 j hj2
  · intro u hu
    obtain ⟨b, _, rfl⟩ := List.mem_map.1 hu
    rfl
  · intro v' w' h2 h3 _
    refine h v' w' (hv.grown ?_ h3)
    rw [List.length_append, hr, List.map_append]
    exact h2
theorem app_text {ops : Array Oper} {rest : List Oper} {o : Oper} {act : Act} {Q : Exit → Act → World → Prop} {w : World} (hgd : o.guard = none) (s x : Operand)
    (ho : o.op = .call { callee := .builtin .append, args := #[s, x], argTypes := #[31, 9] })
    (W1 : World) (v : Value) (l : List UInt8) (hs : act.eval s = v) (hv : OutAt W1 w v l)
    (r : List UInt8) (S : ByteArray) (hS : bs r = S) (hx : act.eval x = .string S) (hle : l.length + r.length ≤ 1000000)
    (h : ∀ v' w', OutAt W1 w' v' (l ++ r) → wpList Try.prog ops Q rest (act.put o.dst v') w') : wpList Try.prog ops Q (o :: rest) act w := by
  obtain ⟨i0, hi, hz0, hz1, hz2⟩ := info_parts info8
  subst hS
  have hsz : (bs r).size = r.length := rfl
  refine Lib.wpList_append_own_string w hgd s x 31 9 ho W1.heap.size 5 i0 Try.underlying31 Try.underlying9 hi hz0 hz1 hz2 v l.length (l.map byteV) hs hv.own (bs r) hx (by unfold maxLen; omega) (by omega) hv.low.size ?_
  intro v' w' h2 h3 _
  rw [strCells_bytes] at h2
  exact h v' w' (hv.pushes r h2 h3)
theorem lit_row {W1 W : World} (h : Below W1.heap.size W1 W) (l : List UInt8) (n : Nat) (hn : l.length = n) (hl : n ≤ 100) (cs : Array Value) (hc : (l.map byteV).toArray = cs) : OutAt W1 (W.alloc (.cells cs 5)) (.slice (some ⟨W.heap.size, 0, none⟩) n n) l := by
  subst hc
  subst hn
  refine ⟨?_, h.alloc h.size _⟩
  have := World.ownsRow_lit (base := W1.heap.size) (e := 5) (size := 1) W (l.map byteV).toArray l.length h.size (by unfold maxLen; omega) (by simp)
  rw [List.toList_toArray] at this
  exact this
theorem lit_bytes (w : World) (l : List UInt8) (cs : Array Value) (hc : (l.map byteV).toArray = cs) (hl : l.length ≤ 100) : BytesAt (w.alloc (.cells cs 5)) (some ⟨w.heap.size, 0, none⟩) l := by
  subst hc
  refine ⟨by rw [List.length_map]; unfold maxLen; omega, fun _ => ⟨w.heap.size, 0, rfl, by simp, fun j hj => ?_⟩⟩
  have := (Blk.new w 5 (l.map byteV).toArray).cell j
  rw [Nat.zero_add, this, List.getElem?_toArray, List.getElem?_eq_getElem hj]
theorem byteV_of {c : UInt8} {z : Int} (h : (c.toNat : Int) = z) : byteV c = .int .u8 z := by unfold byteV; rw [h]
theorem u8_wrap (n : Int) (h0 : 0 ≤ n) (h1 : n ≤ 255) : IntKind.u8.wrap n = n := by
  unfold IntKind.wrap
  simp [IntKind.bits, IntKind.signed]
  omega
theorem tdiv_256 (n : Nat) : (n : Int).tdiv 256 = ((n / 256 : Nat) : Int) := by
  rw [Int.tdiv_eq_ediv_of_nonneg (by omega)]
  omega
theorem tmod_256 (n : Nat) : (n : Int).tmod 256 = ((n % 256 : Nat) : Int) := by
  rw [Int.tmod_eq_emod_of_nonneg (by omega)]
  omega
theorem hiB_nat (n : Nat) (h : n ≤ 65535) : ((hiB n).toNat : Int) = (n : Int) / 256 := by unfold hiB; rw [UInt8.toNat_ofNat']; omega
theorem loB_nat (n : Nat) : ((loB n).toNat : Int) = (n : Int) % 256 := by unfold loB; rw [UInt8.toNat_ofNat']; omega
theorem lit_byte (w : World) (c : UInt8) (z : Int) (hz : (c.toNat : Int) = z) : BytesAt (w.alloc (.cells #[.int .u8 z] 5)) (some ⟨w.heap.size, 0, none⟩) [c] :=
  lit_bytes w [c] _ (by show #[byteV c] = _; rw [byteV_of hz]) (by simp)
theorem lit_two (w : World) (c d : UInt8) (z y : Int) (hz : (c.toNat : Int) = z) (hy : (d.toNat : Int) = y) : BytesAt (w.alloc (.cells #[.int .u8 z, .int .u8 y] 5)) (some ⟨w.heap.size, 0, none⟩) [c, d] :=
  lit_bytes w [c, d] _ (by show #[byteV c, byteV d] = _; rw [byteV_of hz, byteV_of hy]) (by simp)
attribute [local go_sem ↓] loadOp_C loadOp_T
set_option maxRecDepth 100000 in
set_option maxHeartbeats 2000000 in
theorem rPack_no (t : Tab) (p : Lie) (X : Array Value) (hX : (tabCells t p).toArray = X) (w : World) (h : TabAt w t p) (hr : tabRightB t = false) :
    Calls Try.prog 14 #[.agg X] w fun e w' => e = .returned (.tuple #[.slice none 0 0, .int .i64 100]) ∧ Below w.heap.size w w' := by
  have h0 := TiW.start h
  rw [hX] at h0
  have hld := h0.tab.read.all
  rw [hX] at hld
  have HW0 := Lib.hid h0
  have HQ := Lib.hid (rTabRight_any t p X hX _ h0.tab.at_)
  rw [hr] at HQ
  clear h h0 hX hr
  go_enter Try.func14, Try.ntmps14
  go_wp2_with (go_at_call 10; refine HQ.out.mono ?_; rintro e w2 ⟨rfl, hb2⟩; have HW1 := Lib.hid (HW0.out.later hb2); clear hb2)
  go_ret2
  exact ⟨rfl, HW1.out.low⟩
set_option maxRecDepth 1000000 in
set_option maxHeartbeats 4000000 in
theorem rPack_yes (t : Tab) (p : Lie) (X : Array Value) (hX : (tabCells t p).toArray = X) (w : World) (h : TabAt w t p) (hrr : tabRightB t = true) :
    Calls Try.prog 14 #[.agg X] w fun e w' => ∃ v, e = .returned (.tuple #[v, .int .i64 0]) ∧ OutAt w w' v (packP t) := by
  have hr := (rightT_iff t).1 hrr
  obtain ⟨an, cn, at_, ct, ns, cs⟩ := p
  have hi := TabIn.new h
  rw [hX] at hi
  have hld := hi.read.all
  rw [hX] at hld
  have HQ := Lib.hid (rTabRight_any t _ X hX _ hi.at_)
  rw [hrr] at HQ
  obtain ⟨hn1, hn2, hn3⟩ := names_short hr.names
  have d1 := hr.lo
  have d2 := hr.hi
  have hsame := hr.same
  have t1 := hr.tlo
  have t2 := hr.thi
  have HNX : Hid (t.next.length ≤ 1280000) := by
    have := hr.len
    have h3 : (t.tags.length : Int) * t.dmany ≤ 5000 * 256 := Int.mul_le_mul (by omega) d2 (by omega) (by omega)
    show _ ≤ _
    omega
  have HTG := Lib.hid hr.tags
  have HNE := Lib.hid hr.next
  have HSH := Lib.hid hn3
  have HO := Lib.hid h.of
  have HNS := Lib.hid (namesP_snoc t.names)
  have HTS := Lib.hid (tagsP_snoc t.tags)
  have HXS := Lib.hid (nextP_snoc t.next)
  have HLEN : Hid ((namesP t.names).length ≤ 13000) := Nat.le_trans (namesP_len _ (fun s hs => (hn3 s hs).2)) (by omega)
  obtain ⟨W1, hW1⟩ : ∃ W1, w.alloc (.cells X 30) = W1 := ⟨_, rfl⟩
  have hsz1 : W1.heap.size = w.heap.size + 1 := by rw [← hW1]; simp
  have HOUT : Hid (∀ W v l, OutAt W1 W v l → OutAt w W v l) := fun W v l ho => by
    refine ⟨ho.own.mono (by omega), ?_⟩
    have : Below w.heap.size w W1 := by rw [← hW1]; exact (Below.refl _ _).alloc (Nat.le_refl _) _
    exact this.trans (ho.low.mono (by omega))
  rw [hW1] at hi HQ hld
  have HKP : Hid (∀ W, Below W1.heap.size W1 W → TabIn W w.heap.size t ⟨an, cn, at_, ct, ns, cs⟩) := fun W hb => hi.below hb
  obtain ⟨nn, hnn⟩ : ∃ n, t.names.length = n := ⟨_, rfl⟩
  obtain ⟨tl, htl⟩ : ∃ n, t.tags.length = n := ⟨_, rfl⟩
  obtain ⟨nl, hnl⟩ : ∃ n, t.next.length = n := ⟨_, rfl⟩
  rw [hnn] at hn1 hn2
  rw [htl] at t1 t2
  rw [hnl] at HNX
  have HRD : Hid (∀ W, Below W1.heap.size W1 W → W.cell? ⟨w.heap.size, 256, none⟩ = some (.int .i64 t.many) ∧ W.cell? ⟨w.heap.size, 258, none⟩ = some (.slice an nl cn) ∧ W.cell? ⟨w.heap.size, 259, none⟩ = some (.slice at_ tl ct) ∧ W.cell? ⟨w.heap.size, 260, none⟩ = some (.slice ns nn cs)) := fun W hb => by
    have := (hi.below hb).read
    rw [← hnl, ← htl, ← hnn]
    exact ⟨this.many, this.next, this.tags, this.names⟩
  have HHD : Hid ((headP t).map byteV = [.int .u8 70, .int .u8 84, .int .u8 1, .int .u8 (t.many - 1), .int .u8 ((tl : Int) / 256), .int .u8 ((tl : Int) % 256), .int .u8 (nn : Int)]) := by
    show [byteV 70, byteV 84, byteV 1, byteV (byteOf (t.dmany - 1)), byteV (hiB ((t.tags.length : Int)).toNat), byteV (loB ((t.tags.length : Int)).toNat), byteV (UInt8.ofNat t.names.length)] = _
    rw [Int.toNat_natCast, htl, hnn, byteV_of (byteOf_nat (t.dmany - 1) (by omega) (by omega)), byteV_of (hiB_nat tl (by omega)), byteV_of (loB_nat tl), byteV_of (c := UInt8.ofNat nn) (z := (nn : Int)) (by rw [UInt8.toNat_ofNat']; omega), ← hsame]
    rfl
  have HHL : Hid ((headP t).length = 7) := show _ = _ from rfl
  have HNN := Lib.hid hnn
  have HTL := Lib.hid htl
  have HNL := Lib.hid hnl
  have m1 : 1 ≤ t.many := by omega
  have m2 : t.many ≤ 256 := by omega
  have e1 := tdiv_256 tl
  have e2 := tmod_256 tl
  have e3 := u8_wrap ((tl / 256 : Nat) : Int) (by omega) (by omega)
  have e4 := u8_wrap ((tl % 256 : Nat) : Int) (by omega) (by omega)
  have e5 := u8_wrap (nn : Int) (by omega) (by omega)
  have e6 := u8_wrap (t.many - 1) (by omega) (by omega)
  clear h hr hrr hX hi hn3 hsame d1 d2 hnn htl hnl
  have HSZ := Lib.hid hsz1
  clear hsz1
  go_enter Try.func14, Try.ntmps14
  go_upto_region 1 with (fail)
  clear hW1
  go_wp2_with (go_at_call 10; refine HQ.out.mono ?_; rintro e w2 ⟨rfl, hb2⟩; have HB2 := Lib.hid hb2; obtain ⟨q1, q2, q3, q4⟩ := HRD.out _ hb2; clear hb2)
  have HO4 : Hid (OutAt W1 _ _ (headP t)) := lit_row HB2.out (headP t) 7 rfl (by decide) _ (by rw [HHD.out])
  clear q1 q2 q3 e1 e2 e3 e4 e5 e6 m1 m2
  go_loopw [4, 5] (fun o i wr => ∃ (k : Nat) (v : Value), o = v ∧ i = .int .i64 k ∧ k ≤ nn ∧ Hid (OutAt W1 wr v (headP t ++ namesP (t.names.take k)))) (fun _ i _ => nn - (intOf i).toNat)
  case atStart => exact ⟨0, _, rfl, rfl, Nat.zero_le _, by rw [show headP t ++ namesP (t.names.take 0) = headP t from by rw [List.take_zero]; exact List.append_nil _]; exact HO4⟩
  case round =>
    clear q4
    obtain ⟨k, v, rfl, rfl, hk, HOK⟩ := hrel
    obtain ⟨_, _, _, q4⟩ := HRD.out _ HOK.out.low
    by_cases hlt : k < nn
    · have hkn : k < t.names.length := by rw [HNN.out]; exact hlt
      have hlt2 : (k : Int) < (nn : Int) := by omega
      obtain ⟨nb, no, rfl, hc⟩ := (HKP.out _ HOK.out.low).at_.names.at_ hkn
      have hsh := HSH.out _ (List.getElem_mem hkn)
      have HSN := Lib.hid (HNS.out k hkn)
      have HLN : Hid ((headP t ++ namesP (t.names.take k)).length ≤ 100000) := by
        show _ ≤ _
        rw [List.length_append, HHL.out]
        have h1 : (namesP (t.names.take k)).length ≤ (namesP t.names).length := by
          conv => rhs; rw [← List.take_append_drop k t.names]
          unfold namesP
          rw [List.flatMap_append, List.length_append]
          omega
        have := HLEN.out
        omega
      have HNC : Hid (∀ W, Below W1.heap.size W1 W → W.cell? ⟨nb, no + k, none⟩ = some (.string (bs t.names[k]))) := fun W hb => by
        obtain ⟨b', o', e, hc'⟩ := (HKP.out W hb).at_.names.at_ hkn
        simp only [Option.some.injEq, Addr.mk.injEq, and_true] at e
        obtain ⟨rfl, rfl⟩ := e
        exact hc'
      generalize t.names[k] = s at *
      obtain ⟨L, hLe⟩ : ∃ L, headP t ++ namesP (t.names.take k) = L := ⟨_, rfl⟩
      rw [hLe] at HOK HLN
      have HLE := Lib.hid hLe
      clear hLe
      have hbs : (bs s).size = s.length := rfl
      have hsl : 1 ≤ (bs s).size ∧ (bs s).size ≤ 64 := hsh
      obtain ⟨hsl1, hsl2⟩ := hsl
      have HRR := Lib.hid hbs
      clear hbs hsh
      generalize hSE : bs s = S at *
      have HSE := Lib.hid hSE
      clear hSE
      have TOK : Hid True := trivial
      go_wp2_with (first
        | (clear TOK; at_builtin; refine app_big rfl _ _ rfl W1 _ L rfl (HOK.out.alloc _) ⟨wr.heap.size, 0, none⟩ 1 1 [UInt8.ofNat s.length] rfl rfl (lit_byte _ _ _ (by rw [UInt8.toNat_ofNat', ← HRR.out]; omega)) (by have := HLN.out; omega) ?_; intro v6 w6 ho6; have HO6 := Lib.hid ho6; obtain ⟨_, _, _, q6⟩ := HRD.out _ ho6.low; have hc6 := HNC.out _ ho6.low; clear ho6)
        | (at_builtin; refine app_text rfl _ _ rfl W1 v6 _ rfl HO6.out s S HSE.out rfl (by have := HLN.out; have := HRR.out; simp; omega) ?_; intro v7 w7 ho7; have HO7 := Lib.hid ho7; clear ho7))
      have HO8 : Hid (OutAt W1 w7 v7 (headP t ++ namesP (t.names.take (k + 1)))) := by
        have := HO7.out
        rw [← HLE.out] at this
        rw [HSN.out, ← List.append_assoc, ← List.append_assoc]
        exact this
      go_roundw
      case rel => exact ⟨k + 1, v7, rfl, by go_num, by omega, HO8⟩
      case measure => simp [intOf]; omega
    · have hkk : k = nn := by omega
      rw [show t.names.take k = t.names from by rw [hkk, ← HNN.out, List.take_length]] at HOK
      have hlt2 : ¬ (k : Int) < (nn : Int) := by omega
      clear hkk HO4
      obtain ⟨L8, hL8⟩ : ∃ L8, headP t ++ namesP t.names = L8 := ⟨_, rfl⟩
      rw [hL8] at HOK
      have HL8 : Hid (L8.length ≤ 13007) := by show _ ≤ _; rw [← hL8, List.length_append]; have := HLEN.out; have := HHL.out; omega
      have HL8E := Lib.hid hL8
      clear hL8
      go_wp2
      clear q4
      go_loopw [4, 6] (fun o i wr => ∃ (k : Nat) (v : Value), o = v ∧ i = .int .i64 k ∧ k ≤ 256 ∧ Hid (OutAt W1 wr v (L8 ++ t.of.take k))) (fun _ i _ => 256 - (intOf i).toNat)
      case atStart => exact ⟨0, _, rfl, rfl, Nat.zero_le _, by rw [show L8 ++ t.of.take 0 = L8 from by rw [List.take_zero]; exact List.append_nil _]; exact HOK⟩
      case round =>
        clear HOK hlt hlt2 hk
        obtain ⟨k, v, rfl, rfl, hk, HOK⟩ := hrel
        by_cases hlt : k < 256
        · have hko : k < t.of.length := by rw [HO.out]; exact hlt
          have hc := (HKP.out _ HOK.out.low).byte k hko
          have HSN : Hid (t.of.take (k + 1) = t.of.take k ++ [t.of[k]]) := List.take_succ_eq_append_getElem hko
          have hlt2 : (k : Int) < 256 := by omega
          generalize t.of[k] = c at *
          obtain ⟨L, hLe⟩ : ∃ L, L8 ++ t.of.take k = L := ⟨_, rfl⟩
          rw [hLe] at HOK
          have HLN : Hid (L.length ≤ 14000) := by
            show _ ≤ _
            rw [← hLe, List.length_append, List.length_take]
            have := HL8.out
            omega
          have HLE := Lib.hid hLe
          clear hLe
          go_wp2_with (at_builtin; refine app_big rfl _ _ rfl W1 _ L rfl (HOK.out.alloc _) ⟨wr.heap.size, 0, none⟩ 1 1 [c] rfl rfl (lit_byte _ _ _ rfl) (by have := HLN.out; omega) ?_; intro v6 w6 ho6; have HO6 := Lib.hid ho6; clear ho6)
          rw [← HLE.out, List.append_assoc, ← HSN.out] at HO6
          go_roundw
          case rel => exact ⟨k + 1, v6, rfl, by go_num, by omega, HO6⟩
          case measure => simp [intOf]; omega
        · have hkk : k = 256 := by omega
          rw [show t.of.take k = t.of from by rw [hkk, ← HO.out, List.take_length]] at HOK
          have hlt2 : ¬ (k : Int) < 256 := by omega
          clear hkk
          obtain ⟨L9, hL9⟩ : ∃ L9, L8 ++ t.of = L9 := ⟨_, rfl⟩
          rw [hL9] at HOK
          have HL9 : Hid (L9.length ≤ 13300) := by show _ ≤ _; rw [← hL9, List.length_append, HO.out]; have := HL8.out; omega
          have HL9E := Lib.hid hL9
          clear hL9
          go_wp2
          go_loopw [4, 7] (fun o i wr => ∃ (k : Nat) (v : Value), o = v ∧ i = .int .i64 k ∧ k ≤ tl ∧ Hid (OutAt W1 wr v (L9 ++ tagsP (t.tags.take k)))) (fun _ i _ => tl - (intOf i).toNat)
          case atStart => exact ⟨0, _, rfl, rfl, Nat.zero_le _, by rw [show L9 ++ tagsP (t.tags.take 0) = L9 from by rw [List.take_zero]; exact List.append_nil _]; exact HOK⟩
          case round =>
            clear HOK hlt hlt2 hk
            obtain ⟨k, v, rfl, rfl, hk, HOK⟩ := hrel
            obtain ⟨_, _, q3, _⟩ := HRD.out _ HOK.out.low
            by_cases hlt : k < tl
            · have hkt : k < t.tags.length := by rw [HTL.out]; exact hlt
              have hlt2 : (k : Int) < (tl : Int) := by omega
              obtain ⟨nb, no, rfl, hc⟩ := (HKP.out _ HOK.out.low).at_.tags.at_ hkt
              obtain ⟨hz3, hz4⟩ := HTG.out _ (List.getElem_mem hkt)
              have HSN := Lib.hid (HTS.out k hkt)
              generalize t.tags[k] = z at *
              obtain ⟨L, hLe⟩ : ∃ L, L9 ++ tagsP (t.tags.take k) = L := ⟨_, rfl⟩
              rw [hLe] at HOK
              have HLN : Hid (L.length ≤ 100000) := by
                show _ ≤ _
                rw [← hLe, List.length_append]
                unfold tagsP
                rw [List.length_map, List.length_take]
                have := HL9.out
                omega
              have HLE := Lib.hid hLe
              clear hLe
              go_wp2_with (at_builtin; refine app_big rfl _ _ rfl W1 _ L rfl (HOK.out.alloc _) ⟨wr.heap.size, 0, none⟩ 1 1 [byteOf (z + 1)] rfl rfl (lit_byte _ _ _ (byteOf_nat _ (by omega) (by omega))) (by have := HLN.out; omega) ?_; intro v6 w6 ho6; have HO6 := Lib.hid ho6; clear ho6)
              rw [← HLE.out, List.append_assoc, ← HSN.out] at HO6
              go_roundw
              case rel => exact ⟨k + 1, v6, rfl, by go_num, by omega, HO6⟩
              case measure => simp [intOf]; omega
            · have hkk : k = tl := by omega
              rw [show t.tags.take k = t.tags from by rw [hkk, ← HTL.out, List.take_length]] at HOK
              have hlt2 : ¬ (k : Int) < (tl : Int) := by omega
              clear hkk
              obtain ⟨L10, hL10⟩ : ∃ L10, L9 ++ tagsP t.tags = L10 := ⟨_, rfl⟩
              rw [hL10] at HOK
              have HL10 : Hid (L10.length ≤ 20000) := by show _ ≤ _; rw [← hL10, List.length_append]; unfold tagsP; rw [List.length_map]; have := HL9.out; have := HTL.out; omega
              have HL10E := Lib.hid hL10
              clear hL10
              have hnx := HNX.out
              go_wp2
              clear q3
              go_loopw [4, 8] (fun o i wr => ∃ (k : Nat) (v : Value), o = v ∧ i = .int .i64 k ∧ k ≤ nl ∧ Hid (OutAt W1 wr v (L10 ++ nextP (t.next.take k)))) (fun _ i _ => nl - (intOf i).toNat)
              case atStart => exact ⟨0, _, rfl, rfl, Nat.zero_le _, by rw [show L10 ++ nextP (t.next.take 0) = L10 from by rw [List.take_zero]; exact List.append_nil _]; exact HOK⟩
              case round =>
                clear HOK hlt hlt2 hk
                obtain ⟨k, v, rfl, rfl, hk, HOX⟩ := hrel
                obtain ⟨_, q2, _, _⟩ := HRD.out _ HOX.out.low
                by_cases hlt : k < nl
                · have hkt : k < t.next.length := by rw [HNL.out]; exact hlt
                  have hlt2 : (k : Int) < (nl : Int) := by omega
                  obtain ⟨nb, no, rfl, hc⟩ := (HKP.out _ HOX.out.low).at_.next.at_ hkt
                  obtain ⟨hz3, hz4⟩ := HNE.out _ (List.getElem_mem hkt)
                  have HSN := Lib.hid (HXS.out k hkt)
                  have htll := HTL.out
                  generalize t.next[k] = z at *
                  obtain ⟨n, rfl⟩ : ∃ n : Nat, z = (n : Int) - 1 := ⟨(z + 1).toNat, by omega⟩
                  have hn5 : n ≤ 5000 := by omega
                  obtain ⟨L, hLe⟩ : ∃ L, L10 ++ nextP (t.next.take k) = L := ⟨_, rfl⟩
                  rw [hLe] at HOX
                  have HLN : Hid (L.length ≤ 20000000) := by
                    show _ ≤ _
                    rw [← hLe, List.length_append, nextP_len, List.length_take]
                    have := HL10.out
                    omega
                  have HLE := Lib.hid hLe
                  have HTW : Hid (twoOf ((n : Int) - 1 + 1) = [hiB n, loB n]) := by
                    show _ = _
                    unfold twoOf
                    rw [show ((n : Int) - 1 + 1).toNat = n from by omega]
                  clear hLe htll hz3 hz4
                  go_wp2_with (at_builtin; refine app_big rfl _ _ rfl W1 _ L rfl (HOX.out.alloc _) ⟨wr.heap.size, 0, none⟩ 2 2 [hiB n, loB n] rfl rfl (lit_two _ _ _ _ _ (hiB_nat n (by omega)) (loB_nat n)) (by have := HLN.out; omega) ?_; intro v6 w6 ho6; have HO6 := Lib.hid ho6; clear ho6)
                  rw [← HLE.out, List.append_assoc, ← HTW.out, ← HSN.out] at HO6
                  go_roundw
                  case rel => exact ⟨k + 1, v6, rfl, by go_num, by omega, HO6⟩
                  case measure => simp [intOf]; omega
                · have hkk : k = nl := by omega
                  rw [show t.next.take k = t.next from by rw [hkk, ← HNL.out, List.take_length]] at HOX
                  have hlt2 : ¬ (k : Int) < (nl : Int) := by omega
                  clear hkk
                  have HPK : Hid (packP t = L10 ++ nextP t.next) := by
                    show _ = _
                    unfold packP
                    rw [HL8E.out, HL9E.out, HL10E.out]
                  go_wp2
                  go_ret2
                  exact ⟨_, rfl, by rw [HPK.out]; exact HOUT.out _ _ _ HOX.out⟩
end Go.Proofs.Ytkgfjapflpjdbaa
