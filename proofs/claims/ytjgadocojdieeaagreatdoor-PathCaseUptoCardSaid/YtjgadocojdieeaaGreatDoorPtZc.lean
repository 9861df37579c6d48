/-
  The contract of path.localText. Conditions: a text of at most 1000 bytes; the library's variable holds some value.
-/
import Derived.Test.YtjgadocojdieeaaGreatDoorPtZa
import Derived.Test.YtjgadocojdieeaaGreatDoorPtZb
namespace Go.Proofs.YtjgadocojdieeaaGreatDoor
open Go.RowKit Go.Shelf

theorem OwnQ.drewN {w : World} {base g c : Nat} {l : List UInt8} (h : OwnQ w base g c l) (n : Nat) : OwnQ (w.drewN n) base g c l := h.kept rfl
theorem quote_step (l : List UInt8) (k : Nat) (hk : k < l.length) : quoteD (l.take (k + 1)) = quoteD (l.take k) ++ (if l[k] = 34 ∨ l[k] = 92 then [92, l[k]] else [l[k]]) := by
  unfold quoteD
  rw [List.take_succ_eq_append_getElem hk, List.flatMap_append]
  simp
theorem quote_most (l : List UInt8) : (quoteD l).length ≤ 2 * l.length := by
  unfold quoteD
  induction l with
  | nil => simp
  | cons c l ih =>
    rw [List.flatMap_cons, List.length_append, List.length_cons]
    have : (if c = 34 ∨ c = 92 then [92, c] else [c]).length ≤ 2 := by split <;> simp
    omega
/-- what localText has in its loop: the text in the row N, its answer so far in the row g, its own -/
structure LoW (w wr : World) (N : Nat) (l acc : List UInt8) (g c : Nat) : Prop where
  low : Below w.heap.size w wr
  own : OwnQ wr w.heap.size g c acc
  text : BuW wr N l
  ne : N ≠ g
  lt : N < wr.heap.size
theorem LoW.grow {w wr W : World} {N g c g' c' : Nat} {l acc acc' : List UInt8} (h : LoW w wr N l acc g c) (hq : OwnQ W w.heap.size g' c' acc') (hg : wr.grownBy W (some g)) (he : g' = g ∨ g' = wr.heap.size) : LoW w W N l acc' g' c' := by
  have hlt := h.lt
  refine ⟨h.low.grown hg h.low.size (fun k hk => by injection hk with hk; rw [← hk]; exact h.own.base_le), hq, ?_, ?_, Nat.lt_of_lt_of_le h.lt hg.size⟩
  · obtain ⟨cur, h1, h2⟩ := h.text
    exact ⟨cur, (hg.block N h.lt (fun e => h.ne (by injection e))).trans h1, h2⟩
  · rcases he with e | e
    · rw [e]; exact h.ne
    · omega
theorem LoW.put {w wr : World} {N g c : Nat} {l acc : List UInt8} (h : LoW w wr N l acc g c) (o : Obj) : LoW w (wr.alloc o) N l acc g c := by
  refine ⟨h.low.alloc h.low.size _, h.own.alloc o, ?_, h.ne, by have := h.lt; rw [World.size_alloc]; omega⟩
  obtain ⟨cur, h1, h2⟩ := h.text
  exact ⟨cur, (Below.heap_alloc wr o N h.lt).trans h1, h2⟩
/-- a byte of constant text is appended -/
theorem LoW.text_ {w wr : World} {N g c : Nat} {l acc : List UInt8} (h : LoW w wr N l acc g c) (x : UInt8) (hm : acc.length ≤ 100000) : ∃ g' c' W, (Builtin.append_ #[40, 9] 40 #[.slice (some ⟨g, 0, none⟩) acc.length c, .string (bs [x])]).run Tryz.prog wr = .ok (.slice (some ⟨g', 0, none⟩) (acc.length + 1) c') W ∧ LoW w W N l (acc ++ [x]) g' c' := by
  obtain ⟨g', c', W, h1, h2, h3, h4⟩ := run_append_qs wr w.heap.size g c acc 40 h.own x (by omega) h.low.size
  exact ⟨g', c', W, h1, h.grow h2 h3 h4⟩
/-- a byte is appended, out of a row of one -/
theorem LoW.byte {w wr : World} {N g c : Nat} {l acc : List UInt8} (h : LoW w wr N l acc g c) (x : UInt8) (hm : acc.length ≤ 100000) : ∃ g' c' W, (Builtin.append_ #[40, 40] 40 #[.slice (some ⟨g, 0, none⟩) acc.length c, .slice (some ⟨wr.heap.size, 0, none⟩) 1 1]).run Tryz.prog (wr.alloc (.cells #[.int .u8 (x.toNat : Int)] 5)) = .ok (.slice (some ⟨g', 0, none⟩) (acc.length + 1) c') W ∧ LoW w W N l (acc ++ [x]) g' c' := by
  have hp := h.put (.cells #[.int .u8 (x.toNat : Int)] 5)
  obtain ⟨g', c', W, h1, h2, h3, h4⟩ := run_append_q2 (wr.alloc (.cells #[.int .u8 (x.toNat : Int)] 5)) w.heap.size g c acc 40 hp.own ⟨wr.heap.size, 0, none⟩ 1 x ((Blk.new wr 5 #[byteV x]).cell 0) (by omega) hp.low.size
  exact ⟨g', c', W, h1, hp.grow h2 h3 h4⟩
theorem loW_first (w w1 : World) (l : List UInt8) (hl : l.length ≤ 1000) (hb : Below w.heap.size w w1) (W2 : World) (hW2 : W2 = w1.alloc (.cells #[.int .u8 34] 5 (1, 2))) : LoW w (Lib.bytesWorld W2 5 (bs l)) W2.heap.size l [34] w1.heap.size 1 := by
  have hsz : W2.heap.size = w1.heap.size + 1 := by rw [hW2, World.size_alloc]
  have hlow := bytesWorld_low W2 5 (bs l)
  have ho : OwnQ W2 w.heap.size w1.heap.size 1 [34] := by
    refine ⟨Nat.le_refl _, by decide, hb.size, #[.int .u8 34], (1, 2), ?_, ?_, rfl, rfl⟩
    · rw [hW2]; exact heap_alloc_new w1 _
    · intro j hj
      simp at hj ⊢
      omega
  refine ⟨low_trans (by rw [hW2]; exact hb.alloc hb.size _) (hlow.mono (by rw [hsz]; have := hb.size; omega)), ho.below hlow (by omega), BuW.new W2 l, by omega, ?_⟩
  obtain ⟨cur, h1, _⟩ := BuW.new W2 l
  exact (Array.getElem?_eq_some_iff.1 h1).1
set_option maxRecDepth 100000 in
set_option maxHeartbeats 2000000 in
theorem local_any (l : List UInt8) (hl : l.length ≤ 1000) (w : World) (he : ErrAt w ∧ ErrG < w.heap.size) : Calls Tryz.prog 82 #[.string (bs l)] w fun e w' => e = .returned (.string (bs (locD l))) ∧ Below w.heap.size w w' := by
  have hr := new_reader w l (by omega) he.1 he.2
  have hb : Below w.heap.size w (w.alloc (.cells #[.string (bs l), .int .i64 0, .bool false, .slice none 0 0, .string ⟨#[]⟩, .string ⟨#[]⟩, .bool false, .bool false] 49)) := (Below.refl _ w).alloc (Nat.le_refl _) _
  have HW := Lib.hid (whole_any (atoms_any 4611686018427387904 (Nat.le_refl _)) ent_m_atoms hr (by omega) trivial)
  have HB := Lib.hid hb
  have HWR : Hid (wholeR atomsR (st0 l) = aB l) := rfl
  unfold meth at HW
  have hmf : ∀ (fn : Fn) (first cap : Array Value) (w : World), (Instr.makeFunc fn first cap).run Tryz.prog w = .ok (.func fn first cap) w := fun _ _ _ _ => rfl
  clear hr hb he
  obtain ⟨n, hn⟩ : ∃ n, n = l.length := ⟨_, rfl⟩
  cases hd : aB l with
  | true =>
    have HD := Lib.hid hd
    have HT : Hid (locD l = l) := by unfold locD; rw [if_pos hd]; rfl
    clear hd hn
    rw [HT.out]
    go_enter Tryz.func82, Tryz.ntmps82
    go_wp2_with (go_at_call 40; refine HW.out.mono ?_; rintro e w1 ⟨rfl, h1, hkp⟩; rw [HWR.out, HD.out]; have HKP1 := Lib.hid hkp; clear h1 hkp)
    go_ret
    exact ⟨rfl, HB.out.trans HKP1.out.low⟩
  | false =>
    have HD := Lib.hid hd
    have HT : Hid (locD l = 34 :: (quoteD l ++ [34])) := by unfold locD; rw [if_neg (by rw [hd]; decide)]; rfl
    clear hd
    rw [HT.out]
    go_enter Tryz.func82, Tryz.ntmps82
    go_upto_region 4 with (go_at_call 40; refine HW.out.mono ?_; rintro e w1 ⟨rfl, h1, hkp⟩; rw [HWR.out, HD.out]; have HL1 := Lib.hid (HB.out.trans hkp.low); clear h1 hkp HW)
    obtain ⟨W2, hW2⟩ : ∃ W2, W2 = w1.alloc (.cells #[.int .u8 34] 5 (1, 2)) := ⟨_, rfl⟩
    have HF := Lib.hid (loW_first w w1 l hl HL1.out W2 hW2)
    have hcc := Joins.run_convert_bytes_const_at (P := Tryz.prog) w1 40 5 #[.int .u8 34] 1 1 w1.heap.size rfl Tryz.underlying40 Tryz.underlying5
    have hcc2 : (convert 40 40 (.slice (some ⟨w1.heap.size, 0, none⟩) 1 1)).run Tryz.prog (w1.alloc (.cells #[.int .u8 34] 5)) = .ok (.slice (some ⟨w1.heap.size, 0, none⟩) 1 1) W2 := by rw [hW2]; exact hcc
    clear hcc hW2
    go_upto_region 5 with (fail)
    have hcv := Lib.run_convert_string_bytes (P := Tryz.prog) W2 9 40 5 (bs l) (u := .string) Tryz.underlying9 Tryz.underlying40 Tryz.underlying5
    rw [bs_size, ← hn] at hcv
    obtain ⟨G, hG⟩ : ∃ G, G = w1.heap.size := ⟨_, rfl⟩
    rw [← hG] at HF ⊢
    have hcg : n ≤ grownCap W2 n 0 5 := grownCap_ge W2 n 0 _
    generalize grownCap W2 n 0 5 = cp at *
    generalize Lib.bytesWorld W2 5 (bs l) = W3 at *
    obtain ⟨N, hN⟩ : ∃ N, N = W2.heap.size := ⟨_, rfl⟩
    rw [← hN] at HF hcv
    have hnm : n ≤ 1000 := by omega
    have HNN := Lib.hid hn
    clear hG hN hn hcc2
    go_wp2
    go_loopw [4, 20] (fun v i wr => ∃ k g c : Nat, k ≤ n ∧ i = .int .i64 k ∧ v = .slice (some ⟨g, 0, none⟩) (34 :: quoteD (l.take k)).length c ∧ Hid (LoW w wr N l (34 :: quoteD (l.take k)) g c)) (fun _ i _ => n - (intOf i).toNat)
    case atStart => exact ⟨0, G, 1, Nat.zero_le _, rfl, rfl, HF.out⟩
    case round =>
      obtain ⟨k, g, c, hk, rfl, rfl, HW⟩ := hrel
      have hk0 : (0 : Int) ≤ (k : Int) := by omega
      have hacc : (34 :: quoteD (l.take k)).length ≤ 50000 := by
        have h1 := quote_most (l.take k)
        have h2 := HNN.out
        rw [List.length_take] at h1
        rw [List.length_cons]
        omega
      by_cases hlt : k < n
      · have hkl : k < l.length := by rw [← HNN.out]; exact hlt
        have hkz : (k : Int) < (n : Int) := by omega
        have hst := quote_step l k hkl
        have hcell := (HW.out.text.cell hkl).1
        obtain ⟨acc, hac⟩ : ∃ acc, acc = 34 :: quoteD (l.take k) := ⟨_, rfl⟩
        rw [← hac] at HW hacc ⊢
        have HST : Hid (34 :: quoteD (l.take (k + 1)) = acc ++ (if l[k] = 34 ∨ l[k] = 92 then [92, l[k]] else [l[k]])) := by
          show _ = _
          rw [hac, hst]
          rfl
        clear hst hac
        generalize l[k] = x at *
        clear hkl
        have hkc : k < cp := by omega
        by_cases hx : x = 34 ∨ x = 92
        · rw [if_pos hx] at HST
          obtain ⟨g1, c1, w4, hr1, hW4⟩ := HW.out.text_ 92 (by omega)
          obtain ⟨g2, c2, w5, hr2, hW5⟩ := hW4.byte x (by rw [List.length_append, List.length_singleton]; omega)
          rw [List.length_append, List.length_singleton] at hr2
          have HW5 := Lib.hid hW5
          have HLN : Hid ((34 :: quoteD (l.take (k + 1))).length = acc.length + 1 + 1) := by
            show _ = _
            rw [HST.out]
            simp
          obtain ⟨m, hm⟩ : ∃ m, m = acc.length := ⟨_, rfl⟩
          rw [← hm] at hr1 hr2 HLN ⊢
          have HAP : Hid (acc ++ [92, x] = acc ++ [92] ++ [x]) := by show _ = _; simp
          clear hW4 hW5 HW hm hacc
          rcases hx with rfl | rfl
          · go_upto_region 9 with (fail)
            go_wp2_with (first | (at_builtin; refine wpList_q rfl _ _ _ _ rfl _ _ _ _ rfl rfl hr1 ?_) | (at_builtin; refine wpList_q rfl _ _ _ _ rfl _ _ _ _ rfl rfl hr2 ?_))
            go_roundw
            case rel => exact ⟨k + 1, g2, c2, by omega, by go_num, by rw [HLN.out], by rw [HST.out, HAP.out]; exact HW5.out⟩
            case measure => simp [intOf]; omega
          · go_upto_region 9 with (fail)
            go_wp2_with (first | (at_builtin; refine wpList_q rfl _ _ _ _ rfl _ _ _ _ rfl rfl hr1 ?_) | (at_builtin; refine wpList_q rfl _ _ _ _ rfl _ _ _ _ rfl rfl hr2 ?_))
            go_roundw
            case rel => exact ⟨k + 1, g2, c2, by omega, by go_num, by rw [HLN.out], by rw [HST.out, HAP.out]; exact HW5.out⟩
            case measure => simp [intOf]; omega
        · rw [if_neg hx] at HST
          obtain ⟨g2, c2, w5, hr2, hW5⟩ := HW.out.byte x (by omega)
          have HW5 := Lib.hid hW5
          have HLN : Hid ((34 :: quoteD (l.take (k + 1))).length = acc.length + 1) := by
            show _ = _
            rw [HST.out]
            simp
          obtain ⟨m, hm⟩ : ∃ m, m = acc.length := ⟨_, rfl⟩
          rw [← hm] at hr2 HLN ⊢
          have hx1 : ¬ (x.toNat : Int) = ((({ data := #[34] } : ByteArray)[0]'(by decide)).toNat : Int) := by
            intro h
            exact hx (.inl (UInt8.toNat_inj.1 (by show x.toNat = 34; have h : (x.toNat : Int) = 34 := h; omega)))
          have hx2 : ¬ (x.toNat : Int) = ((({ data := #[92] } : ByteArray)[0]'(by decide)).toNat : Int) := by
            intro h
            exact hx (.inr (UInt8.toNat_inj.1 (by show x.toNat = 92; have h : (x.toNat : Int) = 92 := h; omega)))
          have hy1 : ((x.toNat : Int) == ((({ data := #[34] } : ByteArray)[0]'(by decide)).toNat : Int)) = false := by (rw [beq_eq_false_iff_ne]; exact hx1)
          have hy2 : ((x.toNat : Int) == ((({ data := #[92] } : ByteArray)[0]'(by decide)).toNat : Int)) = false := by (rw [beq_eq_false_iff_ne]; exact hx2)
          clear hW5 HW hm hacc hx hx1 hx2
          generalize (x.toNat : Int) = z at *
          go_upto_region 10 with (fail)
          go_wp2_with (at_builtin; refine wpList_q rfl _ _ _ _ rfl _ _ _ _ rfl rfl hr2 ?_)
          go_roundw
          case rel => exact ⟨k + 1, g2, c2, by omega, by go_num, by rw [HLN.out], by rw [HST.out]; exact HW5.out⟩
          case measure => simp [intOf]; omega
      · have hke : k = n := by omega
        have hkz : ¬ (k : Int) < (n : Int) := by omega
        rw [hke, HNN.out, List.take_length] at HW hacc ⊢
        obtain ⟨g1, c1, w4, hr1, hW4⟩ := HW.out.text_ 34 (by omega)
        have hcv2 := conv_any w4 (some ⟨g1, 0, none⟩) (34 :: quoteD l ++ [34]) c1 hW4.own.bytes
        rw [List.length_append, List.length_singleton] at hcv2
        have HL4 := Lib.hid hW4.low
        generalize (34 :: quoteD l).length = m at *
        clear hW4 HW hacc hke
        go_wp2_with (at_builtin; refine wpList_q rfl _ _ _ _ rfl _ _ _ _ rfl rfl hr1 ?_)
        go_ret
        exact ⟨rfl, HL4.out⟩
end Go.Proofs.YtjgadocojdieeaaGreatDoor
