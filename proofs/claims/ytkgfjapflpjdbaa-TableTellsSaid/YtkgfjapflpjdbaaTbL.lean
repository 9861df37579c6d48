/-
  The contract of table.packed. Conditions: the table is right, and lies in memory; names within Go's own bounds.
-/
import Derived.Test.YtkgfjapflpjdbaaTbM
import Derived.Deep.DeepCutAuto
import Derived.Lib.SmallJoins
namespace Go.Proofs.Ytkgfjapflpjdbaa
open Go.RowKit

def byteOf (z : Int) : UInt8 := UInt8.ofNat z.toNat
def twoOf (z : Int) : List UInt8 := [hiB z.toNat, loB z.toNat]
def nameBytes (s : List UInt8) : List UInt8 := UInt8.ofNat s.length :: s
def namesP (l : List (List UInt8)) : List UInt8 := l.flatMap nameBytes
def tagsP (l : List Int) : List UInt8 := l.map fun z => byteOf (z + 1)
def nextP (l : List Int) : List UInt8 := l.flatMap fun z => twoOf (z + 1)
def headP (t : Tab) : List UInt8 := [70, 84, 1] ++ [byteOf (t.dmany - 1)] ++ twoOf t.tags.length ++ [UInt8.ofNat t.names.length]
/-- a table's bytes -/
def packP (t : Tab) : List UInt8 := headP t ++ namesP t.names ++ t.of ++ tagsP t.tags ++ nextP t.next
theorem namesP_snoc (l : List (List UInt8)) (k : Nat) (h : k < l.length) : namesP (l.take (k + 1)) = namesP (l.take k) ++ ([UInt8.ofNat l[k].length] ++ l[k]) := by
  unfold namesP
  rw [List.take_succ_eq_append_getElem h, List.flatMap_append]
  simp [nameBytes]
theorem tagsP_snoc (l : List Int) (k : Nat) (h : k < l.length) : tagsP (l.take (k + 1)) = tagsP (l.take k) ++ [byteOf (l[k] + 1)] := by
  unfold tagsP
  rw [List.take_succ_eq_append_getElem h, List.map_append]
  rfl
theorem nextP_snoc (l : List Int) (k : Nat) (h : k < l.length) : nextP (l.take (k + 1)) = nextP (l.take k) ++ twoOf (l[k] + 1) := by
  unfold nextP
  rw [List.take_succ_eq_append_getElem h, List.flatMap_append]
  simp
theorem namesP_len (l : List (List UInt8)) (h : ∀ s ∈ l, s.length ≤ 64) : (namesP l).length ≤ 65 * l.length := by
  unfold namesP
  induction l with
  | nil => simp
  | cons x r ih =>
    have h1 := h x (by simp)
    have h2 := ih (fun s hs => h s (by simp [hs]))
    simp only [List.flatMap_cons, List.length_append, List.length_cons, nameBytes]
    omega
theorem nextP_len (l : List Int) : (nextP l).length = 2 * l.length := by
  unfold nextP
  induction l with
  | nil => simp
  | cons x r ih =>
    simp only [List.flatMap_cons, List.length_append, List.length_cons, twoOf, List.length_nil] at *
    omega
theorem OutAt.push {W1 W W' : World} {v v' : Value} {l : List UInt8} (h : OutAt W1 W v l) (c : UInt8) (z : Int) (hz : (c.toNat : Int) = z) (h2 : W'.ownsRow W1.heap.size 5 1 v' (l.length + 1) (l.map byteV ++ [.int .u8 z])) (hg : W.grownBy W' v.ownBlock) : OutAt W1 W' v' (l ++ [c]) := by
  refine h.grown ?_ hg
  rw [List.map_append, List.length_append]
  show World.ownsRow _ _ _ _ _ (l.length + 1) (l.map byteV ++ [byteV c])
  unfold byteV at *
  rw [hz]
  exact h2
theorem OutAt.pushes {W1 W W' : World} {v v' : Value} {l : List UInt8} (h : OutAt W1 W v l) (m : List UInt8) (h2 : W'.ownsRow W1.heap.size 5 1 v' (l.length + m.length) (l.map byteV ++ m.map byteV)) (hg : W.grownBy W' v.ownBlock) : OutAt W1 W' v' (l ++ m) := by
  refine h.grown ?_ hg
  rw [List.map_append, List.length_append]
  exact h2
theorem cell_still {w : World} {a : Addr} {u : Value} (h : w.cell? a = some u) (o : Obj) : (w.alloc o).cell? a = some u := (World.cell?_alloc_lt w o a (World.block_lt_of_cell? w a h)).trans h
theorem names_short {l : List (List UInt8)} (h : namesB l = true) : 1 ≤ l.length ∧ l.length ≤ 200 ∧ ∀ s ∈ l, 1 ≤ s.length ∧ s.length ≤ 64 := by
  unfold namesB at h
  simp only [Bool.and_eq_true, decide_eq_true_eq, List.all_eq_true] at h
  obtain ⟨h1, h2, h3, _⟩ := h
  refine ⟨h1, h2, fun s hs => ?_⟩
  have := h3 s hs
  unfold nameB at this
  simp only [Bool.and_eq_true, decide_eq_true_eq] at this
  omega
theorem byteOf_nat (z : Int) (h0 : 0 ≤ z) (h1 : z ≤ 255) : ((byteOf z).toNat : Int) = z := by unfold byteOf; rw [UInt8.toNat_ofNat']; omega
theorem strCells_bytes (l : List UInt8) : Lib.strCells (bs l) = l.map byteV := rfl

attribute [local go_sem ↓] loadOp_C loadOp_T
set_option maxRecDepth 100000 in
set_option maxHeartbeats 2000000 in
theorem packed_any (t : Tab) (p : Lie) (X : Array Value) (hX : (tabCells t p).toArray = X) (w : World) (h : TabAt w t p) (hr : RightT t) :
    Calls Try.prog 26 #[.agg X] w fun e w' => ∃ v, e = .returned v ∧ OutAt (w.alloc (.cells X 30)) w' v (packP t) := by
  obtain ⟨i0, hi0, hz0, hz1, hz2⟩ := info_parts info8
  have hi := TabIn.new h
  have hb : Below w.heap.size w (w.alloc (.cells (tabCells t p).toArray 30)) := (Below.refl _ _).alloc (Nat.le_refl _) _
  rw [hX] at hi hb
  obtain ⟨hn1, hn2, hn3⟩ := names_short hr.names
  have d1 := hr.lo
  have d2 := hr.hi
  have t1 := hr.tlo
  have t2 := hr.thi
  have HNX : Hid (t.next.length ≤ 1280000) := by
    have := hr.len
    have h3 : (t.tags.length : Int) * t.dmany ≤ 5000 * 256 := Int.mul_le_mul (by omega) d2 (by omega) (by omega)
    show _ ≤ _
    omega
  have HTG := Lib.hid hr.tags
  have HNE := Lib.hid hr.next
  have HSH := Lib.hid hn3
  have HO := Lib.hid h.of
  have HI := Lib.hid hi
  have HNS := Lib.hid (namesP_snoc t.names)
  have HTS := Lib.hid (tagsP_snoc t.tags)
  have HXS := Lib.hid (nextP_snoc t.next)
  have HLEN : Hid ((namesP t.names).length ≤ 13000) := Nat.le_trans (namesP_len _ (fun s hs => (hn3 s hs).2)) (by omega)
  clear h hr hX hb hn3
  have hcv := Joins.run_convert_bytes_const_at (P := Try.prog) (w.alloc (.cells X 30)) 31 5 #[.int .u8 70, .int .u8 84, .int .u8 1] 3 3 (w.heap.size + 1) (by simp) Try.underlying31 Try.underlying5
  go_enter Try.func26, Try.ntmps26
  go_upto_region 2 with (fail)
  have HLIT : Hid (∀ j u, [byteV 70, byteV 84, byteV 1][j]? = some u → ((w.alloc (.cells X 30)).alloc (.cells #[.int .u8 70, .int .u8 84, .int .u8 1] 5 (3, 4))).cell? ((⟨w.heap.size + 1, 0, none⟩ : Addr).add j) = some u) := by
    intro j u hj
    have e : (⟨w.heap.size + 1, 0, none⟩ : Addr).add j = ⟨w.heap.size + 1, j, none⟩ := by unfold Addr.add; split <;> simp_all
    rw [e, Joins.cell_alloc_mark_at _ _ _ _ _ _ (by simp)]
    rw [show (#[.int .u8 70, .int .u8 84, .int .u8 1] : Array Value) = [byteV 70, byteV 84, byteV 1].toArray from rfl, List.getElem?_toArray]
    exact hj
  have HB2 : Hid (Below (w.alloc (.cells X 30)).heap.size (w.alloc (.cells X 30)) ((w.alloc (.cells X 30)).alloc (.cells #[.int .u8 70, .int .u8 84, .int .u8 1] 5 (3, 4)))) := (Below.refl _ _).alloc (Nat.le_refl _) _
  have hsz1 : (w.alloc (.cells X 30)).heap.size = w.heap.size + 1 := by simp
  have HSZ := Lib.hid hsz1
  clear hsz1 hi hcv
  generalize (w.alloc (.cells X 30)).alloc (.cells #[.int .u8 70, .int .u8 84, .int .u8 1] 5 (3, 4)) = W2 at *
  generalize hW1 : w.alloc (.cells X 30) = W1 at *
  have HW1 := Lib.hid hW1
  clear hW1
  generalize w.heap.size = B at *
  have HKP : Hid (∀ W, Below W1.heap.size W1 W → TabIn W B t p) := fun W hb => HI.out.below hb
  have hm1 := (HKP.out _ HB2.out).dmany
  go_wp2_with (at_builtin; refine wpList_append_full rfl _ _ 31 rfl W1.heap.size 5 i0 (.int .u8 0) Try.underlying31 hi0 hz0 hz1 hz2 rfl (B + 1) 3 [byteV 70, byteV 84, byteV 1] rfl rfl (fun j u hj => cell_still (HLIT.out j u hj) _) ⟨W2.heap.size, 0, none⟩ 1 1 [.int .u8 (t.dmany - 1)] rfl rfl (by decide) (cell_one_new _ _ _) (by decide) (by decide) ?c5 ?_)
  case c5 => have := HB2.out.size; simp; omega
  intro v3 W3 hown3 hgrow3
  have HO3 : Hid (OutAt W1 W3 v3 [70, 84, 1, byteOf (t.dmany - 1)]) := by
    refine ⟨?_, (HB2.out.alloc HB2.out.size _).grown hgrow3 (by have := HB2.out.size; simp; omega) (fun k hk => by cases hk)⟩
    have e : ([70, 84, 1, byteOf (t.dmany - 1)] : List UInt8).map byteV = [byteV 70, byteV 84, byteV 1] ++ [.int .u8 (t.dmany - 1)] := by
      show [byteV 70, byteV 84, byteV 1, byteV (byteOf (t.dmany - 1))] = _
      have := byteOf_nat (t.dmany - 1) (by omega) (by omega)
      unfold byteV at *
      rw [this]
      rfl
    rw [e]
    exact hown3
  clear hown3 hgrow3 hm1 HLIT HB2
  have hm2 := (HKP.out _ HO3.out.low).tags
  go_wp2_with (first
    | (go_at_call 37; refine (appendTwo_any W1 _ v3 _ t.tags.length (by omega) (by simp) HO3.out).mono ?_; rintro e W4 ⟨v4, rfl, ho4⟩; have hm4 := (HKP.out _ ho4.low).names; have HO4 := Lib.hid ho4; clear ho4)
    | (at_builtin; refine wpList_append_own _ rfl _ _ 31 rfl W1.heap.size 5 i0 (.int .u8 0) 1 1 Try.underlying31 hi0 hz0 hz1 hz2 rfl (by decide) _ _ _ rfl (HO4.out.own.alloc _) ⟨W4.heap.size, 0, none⟩ 1 1 [.int .u8 (t.names.length : Int)] rfl rfl (cell_one_new _ _ _) ?c2 ?c3 ?c4 ?c5 ?_))
  case c2 => intro u hu; simp at hu; subst hu; rfl
  case c3 => unfold maxLen; simp
  case c4 => simp
  case c5 => have := HO4.out.low.size; simp; omega
  intro v5 W5 hown5 hgrow5 _
  have HO5 : Hid (OutAt W1 W5 v5 (headP t)) := (HO4.out.alloc _).push (UInt8.ofNat t.names.length) _ (by rw [UInt8.toNat_ofNat']; omega) hown5 hgrow5
  clear hown5 hgrow5 hm2 hm4 HO4 HO3
  have HHL : Hid ((headP t).length = 7) := show _ = _ from rfl
  have hm5 := (HKP.out _ HO5.out.low).names
  go_wp2_with fail
  go_loopw [3, 36] (fun o i wr => ∃ (k : Nat) (v : Value), o = v ∧ i = .int .i64 k ∧ k ≤ t.names.length ∧ Hid (OutAt W1 wr v (headP t ++ namesP (t.names.take k)))) (fun _ i _ => t.names.length - (intOf i).toNat)
  case atStart => exact ⟨0, v5, rfl, rfl, Nat.zero_le _, by rw [show headP t ++ namesP (t.names.take 0) = headP t from by rw [List.take_zero]; exact List.append_nil _]; exact HO5⟩
  case round =>
    obtain ⟨k, v, rfl, rfl, hk, HOK⟩ := hrel
    by_cases hlt : k < t.names.length
    · obtain ⟨nb, no, hna, hc⟩ := (HKP.out _ HOK.out.low).at_.names.at_ hlt
      have hsh := HSH.out _ (List.getElem_mem hlt)
      have HSN := Lib.hid (HNS.out k hlt)
      have HLN : Hid ((headP t ++ namesP (t.names.take k)).length ≤ 100000) := by
        show _ ≤ _
        rw [List.length_append, HHL.out]
        have h1 : (namesP (t.names.take k)).length ≤ (namesP t.names).length := by
          conv => rhs; rw [← List.take_append_drop k t.names]
          unfold namesP
          rw [List.flatMap_append, List.length_append]
          omega
        have := HLEN.out
        omega
      generalize t.names[k] = s at *
      rw [hna]
      obtain ⟨L, hLe⟩ : ∃ L, headP t ++ namesP (t.names.take k) = L := ⟨_, rfl⟩
      rw [hLe] at HOK HLN
      have HLE := Lib.hid hLe
      clear hLe
      have hbs : (bs s).size = s.length := rfl
      have hsl : 1 ≤ (bs s).size ∧ (bs s).size ≤ 64 := hsh
      obtain ⟨hsl1, hsl2⟩ := hsl
      have HRR := Lib.hid hbs
      clear hbs hsh
      generalize hSE : bs s = S at *
      have HSE := Lib.hid hSE
      clear hSE
      go_wp2_with (at_builtin; refine wpList_append_own _ rfl _ _ 31 rfl W1.heap.size 5 i0 (.int .u8 0) 1 1 Try.underlying31 hi0 hz0 hz1 hz2 rfl (by decide) _ _ _ rfl (HOK.out.own.alloc _) ⟨wr.heap.size, 0, none⟩ 1 1 [.int .u8 (S.size : Int)] rfl rfl (cell_one_new _ _ _) ?c2 ?c3 ?c4 ?c5 ?_)
      case c2 => intro u hu; simp at hu; subst hu; rfl
      case c3 => have := HLN.out; unfold maxLen; omega
      case c4 => have := HLN.out; omega
      case c5 => have := HOK.out.low.size; simp; omega
      intro v6 W6 hown6 hgrow6 _
      have HO6 := Lib.hid ((HOK.out.alloc _).push (UInt8.ofNat s.length) (S.size : Int) (by rw [UInt8.toNat_ofNat', ← HRR.out]; omega) hown6 hgrow6)
      obtain ⟨L6, hL6⟩ : ∃ L6, L ++ [UInt8.ofNat s.length] = L6 := ⟨_, rfl⟩
      rw [hL6] at HO6
      have HL6 : Hid (L6.length ≤ 100001) := by show _ ≤ _; rw [← hL6, List.length_append]; have := HLN.out; simp; omega
      have HL6E := Lib.hid hL6
      clear hown6 hgrow6 hL6
      go_wp2_with (at_builtin; refine Lib.wpList_append_own_string _ rfl _ _ 31 9 rfl W1.heap.size 5 i0 Try.underlying31 Try.underlying9 hi0 hz0 hz1 hz2 _ _ _ rfl HO6.out.own S rfl ?c3 ?c4 ?c5 ?_)
      case c3 => have := HL6.out; unfold maxLen; omega
      case c4 => have := HL6.out; omega
      case c5 => exact HO6.out.low.size
      intro v7 W7 hown7 hgrow7 _
      have HO7 : Hid (OutAt W1 W7 v7 (headP t ++ namesP (t.names.take (k + 1)))) := by
        rw [← HSE.out, strCells_bytes] at hown7
        have := HO6.out.pushes s hown7 hgrow7
        rw [HSN.out, ← List.append_assoc, ← List.append_assoc, HLE.out, HL6E.out]
        exact this
      clear hown7 hgrow7
      go_wp2
      go_roundw
      case rel => exact ⟨k + 1, v7, rfl, by go_num, by omega, HO7⟩
      case measure => simp [intOf]; omega
    · have hkk : k = t.names.length := by omega
      rw [show t.names.take k = t.names from by rw [hkk, List.take_length]] at HOK
      clear hkk hm5 HO5
      obtain ⟨L8, hL8⟩ : ∃ L8, headP t ++ namesP t.names = L8 := ⟨_, rfl⟩
      rw [hL8] at HOK
      have HL8 : Hid (L8.length ≤ 13007) := by show _ ≤ _; rw [← hL8, List.length_append]; have := HLEN.out; have := HHL.out; omega
      have HL8E := Lib.hid hL8
      clear hL8
      have HI8 := Lib.hid (HKP.out _ HOK.out.low)
      go_wp2_with (at_builtin; refine wpList_append_own _ rfl _ _ 31 rfl W1.heap.size 5 i0 (.int .u8 0) 1 1 Try.underlying31 hi0 hz0 hz1 hz2 rfl (by decide) _ _ _ rfl HOK.out.own ⟨B, 0, none⟩ 256 256 (t.of.map byteV) rfl ?c1 ?c6 ?c2 ?c3 ?c4 ?c5 ?_)
      case c1 => rw [List.length_map, HO.out]
      case c6 =>
        intro j u hj
        rw [List.getElem?_map] at hj
        cases ho : t.of[j]? with
        | none => rw [ho] at hj; cases hj
        | some x =>
          rw [ho] at hj
          obtain ⟨hjl, hje⟩ := List.getElem?_eq_some_iff.1 ho
          injection hj with hj
          rw [show (⟨B, 0, none⟩ : Addr).add j = ⟨B, j, none⟩ from by unfold Addr.add; split <;> simp_all]
          rw [HI8.out.byte j hjl, hje, ← hj]
          rfl
      case c2 => intro u hu; obtain ⟨x, _, rfl⟩ := List.mem_map.1 hu; rfl
      case c3 => have := HL8.out; unfold maxLen; omega
      case c4 => have := HL8.out; omega
      case c5 => exact HOK.out.low.size
      intro v9 W9 hown9 hgrow9 _
      have HO9 := Lib.hid (HOK.out.pushes t.of (by rw [HO.out]; exact hown9) hgrow9)
      obtain ⟨L9, hL9⟩ : ∃ L9, L8 ++ t.of = L9 := ⟨_, rfl⟩
      rw [hL9] at HO9
      have HL9 : Hid (L9.length ≤ 13300) := by show _ ≤ _; rw [← hL9, List.length_append, HO.out]; have := HL8.out; omega
      have HL9E := Lib.hid hL9
      clear hL9 hown9 hgrow9 HI8
      have hm9 := (HKP.out _ HO9.out.low).tags
      have htl : t.tags.length ≤ 9223372036854775807 := by omega
      go_wp2_with fail
      clear hm9
      go_loopw [3, 59] (fun o i wr => ∃ (k : Nat) (v : Value), o = v ∧ i = .int .i64 k ∧ k ≤ t.tags.length ∧ Hid (OutAt W1 wr v (L9 ++ tagsP (t.tags.take k)))) (fun _ i _ => t.tags.length - (intOf i).toNat)
      case atStart => exact ⟨0, v9, rfl, rfl, Nat.zero_le _, by rw [show L9 ++ tagsP (t.tags.take 0) = L9 from by rw [List.take_zero]; exact List.append_nil _]; exact HO9⟩
      case round =>
        obtain ⟨k, v, rfl, rfl, hk, HOK⟩ := hrel
        by_cases hlt : k < t.tags.length
        · obtain ⟨nb, no, hna, hc⟩ := (HKP.out _ HOK.out.low).at_.tags.at_ hlt
          obtain ⟨hz3, hz4⟩ := HTG.out _ (List.getElem_mem hlt)
          have HSN := Lib.hid (HTS.out k hlt)
          rw [hna]
          generalize t.tags[k] = z at *
          obtain ⟨L, hLe⟩ : ∃ L, L9 ++ tagsP (t.tags.take k) = L := ⟨_, rfl⟩
          rw [hLe] at HOK
          have HLN : Hid (L.length ≤ 100000) := by
            show _ ≤ _
            rw [← hLe, List.length_append]
            unfold tagsP
            rw [List.length_map, List.length_take]
            have := HL9.out
            omega
          have HLE := Lib.hid hLe
          clear hLe
          go_wp2_with (at_builtin; refine wpList_append_own _ rfl _ _ 31 rfl W1.heap.size 5 i0 (.int .u8 0) 1 1 Try.underlying31 hi0 hz0 hz1 hz2 rfl (by decide) _ _ _ rfl (HOK.out.own.alloc _) ⟨wr.heap.size, 0, none⟩ 1 1 [.int .u8 (z + 1)] rfl rfl (cell_one_new _ _ _) ?c2 ?c3 ?c4 ?c5 ?_)
          case c2 => intro u hu; simp at hu; subst hu; rfl
          case c3 => have := HLN.out; unfold maxLen; omega
          case c4 => have := HLN.out; omega
          case c5 => have := HOK.out.low.size; simp; omega
          intro v6 W6 hown6 hgrow6 _
          have HO6 := Lib.hid ((HOK.out.alloc _).push (byteOf (z + 1)) (z + 1) (byteOf_nat _ (by omega) (by omega)) hown6 hgrow6)
          rw [← HLE.out, List.append_assoc, ← HSN.out] at HO6
          clear hown6 hgrow6
          go_wp2
          go_roundw
          case rel => exact ⟨k + 1, v6, rfl, by go_num, by omega, HO6⟩
          case measure => simp [intOf]; omega
        · have hkk : k = t.tags.length := by omega
          rw [show t.tags.take k = t.tags from by rw [hkk, List.take_length]] at HOK
          clear hkk HO9
          obtain ⟨L10, hL10⟩ : ∃ L10, L9 ++ tagsP t.tags = L10 := ⟨_, rfl⟩
          rw [hL10] at HOK
          have HL10 : Hid (L10.length ≤ 20000) := by show _ ≤ _; rw [← hL10, List.length_append]; unfold tagsP; rw [List.length_map]; have := HL9.out; omega
          have HL10E := Lib.hid hL10
          clear hL10
          have hm10 := (HKP.out _ HOK.out.low).next
          have hnx := HNX.out
          go_wp2_with fail
          clear hm10
          go_loopw [3, 74] (fun o i wr => ∃ (k : Nat) (v : Value), o = v ∧ i = .int .i64 k ∧ k ≤ t.next.length ∧ Hid (OutAt W1 wr v (L10 ++ nextP (t.next.take k)))) (fun _ i _ => t.next.length - (intOf i).toNat)
          case atStart => exact ⟨0, _, rfl, rfl, Nat.zero_le _, by rw [show L10 ++ nextP (t.next.take 0) = L10 from by rw [List.take_zero]; exact List.append_nil _]; exact HOK⟩
          case round =>
            obtain ⟨k, v, rfl, rfl, hk, HOX⟩ := hrel
            by_cases hlt : k < t.next.length
            · obtain ⟨nb, no, hna, hc⟩ := (HKP.out _ HOX.out.low).at_.next.at_ hlt
              obtain ⟨hz3, hz4⟩ := HNE.out _ (List.getElem_mem hlt)
              have HSN := Lib.hid (HXS.out k hlt)
              rw [hna]
              generalize t.next[k] = z at *
              obtain ⟨n, rfl⟩ : ∃ n : Nat, z = (n : Int) - 1 := ⟨(z + 1).toNat, by omega⟩
              obtain ⟨L, hLe⟩ : ∃ L, L10 ++ nextP (t.next.take k) = L := ⟨_, rfl⟩
              rw [hLe] at HOX
              have HLN : L.length ≤ 140737488000000 := by
                rw [← hLe, List.length_append, nextP_len, List.length_take]
                have := HL10.out
                omega
              have HLE := Lib.hid hLe
              have HTW : Hid (twoOf ((n : Int) - 1 + 1) = [hiB n, loB n]) := by
                show _ = _
                unfold twoOf
                rw [show ((n : Int) - 1 + 1).toNat = n from by omega]
              have HC := Lib.hid (appendTwo_any W1 wr _ L n (by omega) HLN HOX.out)
              clear hLe HLN
              go_wp2_with (go_at_call 37; refine HC.out.mono ?_; rintro e W6 ⟨v6, rfl, ho6⟩; have HO6 := Lib.hid ho6; clear ho6)
              rw [← HLE.out, List.append_assoc, ← HTW.out, ← HSN.out] at HO6
              go_roundw
              case rel => exact ⟨k + 1, v6, rfl, by go_num, by omega, HO6⟩
              case measure => simp [intOf]; omega
            · have hkk : k = t.next.length := by omega
              rw [show t.next.take k = t.next from by rw [hkk, List.take_length]] at HOX
              clear hkk
              have HPK : Hid (packP t = L10 ++ nextP t.next) := by
                show _ = _
                unfold packP
                rw [HL8E.out, HL9E.out, HL10E.out]
              go_wp2
              go_ret
              exact ⟨_, rfl, by rw [HPK.out, HW1.out]; exact HOX.out⟩
end Go.Proofs.Ytkgfjapflpjdbaa
