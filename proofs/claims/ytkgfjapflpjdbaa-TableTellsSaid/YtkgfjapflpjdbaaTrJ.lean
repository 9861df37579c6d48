/-
  The contract of frankingref10.Read. Conditions: the bytes lie in memory, within Go's own bounds.
-/
import Derived.Test.YtkgfjapflpjdbaaTrI
import Derived.BigRegion
namespace Go.Proofs.Ytkgfjapflpjdbaa
open Go.RowKit Go.Shelf

theorem RfW.out {w W : World} {ab : Option Addr} {l : List UInt8} {t : Tab} {p : Lie} (h : RfW w W ab l t p) (t2 : Tab) (p2 : Lie) (ht : TabAt W t2 p2) (h1 : ∀ x, p2.an = some x → w.heap.size + 2 ≤ x.block) (h2 : ∀ x, p2.at_ = some x → w.heap.size + 2 ≤ x.block) (h3 : ∀ x, p2.ns = some x → w.heap.size + 2 ≤ x.block) :
    (StoreOp 30 (.pointer (some ⟨w.heap.size, 0, none⟩)) (.agg (tabCells t2 p2).toArray)).run Try.prog W = .ok () (W.setRow w.heap.size (tabCells t2 p2).toArray) ∧ Below w.heap.size w (W.setRow w.heap.size (tabCells t2 p2).toArray) ∧ TabAt (W.setRow w.heap.size (tabCells t2 p2).toArray) t2 p2 ∧ Blk (W.setRow w.heap.size (tabCells t2 p2).toArray) w.heap.size 30 (tabCells t2 p2).toArray :=
  ⟨store_run _ _ _ t2 p2 h.res (by rw [List.size_toArray, tab_len zeroTab zeroLie List.length_replicate]) ht.of, below_row h.low _ _ (Nat.le_refl _), ht.only (only_setRow _ W _) (fun x hx => by have := h1 x hx; omega) (fun x hx => by have := h2 x hx; omega) (fun x hx => by have := h3 x hx; omega), setRow_heap _ _ _ _ _ _ h.res⟩
theorem drop_bytes {W : World} {g off : Nat} {l : List UInt8} (h : BytesAt W (some ⟨g, off, none⟩) l) (k m : Nat) (hk : k + m ≤ l.length) : BytesAt W (some ⟨g, off + k, none⟩) ((l.drop k).take m) := by
  have hlen : ((l.drop k).take m).length = m := by rw [List.length_take, List.length_drop]; omega
  refine ⟨by have := h.len; rw [List.length_map, hlen]; omega, fun h0 => ?_⟩
  rw [List.length_map, hlen] at h0
  obtain ⟨g', off', e1, e2, e3⟩ := RowAt.row h (by rw [List.length_map]; omega)
  simp only [Option.some.injEq, Addr.mk.injEq, and_true] at e1
  obtain ⟨rfl, rfl⟩ := e1
  refine ⟨g, off + k, rfl, e2, fun j hj => ?_⟩
  rw [List.length_map, hlen] at hj
  rw [Nat.add_assoc, e3 (k + j) (by rw [List.length_map]; omega), List.getElem_map, List.getElem_map, List.getElem_take, List.getElem_drop]
/-- the names are being read -/
structure N1 (w W : World) (ab : Option Addr) (l : List UInt8) (T : Tab) (m : Int) (k at_ : Nat) (t : Tab) (p : Lie) : Prop where
  rf : RfW w W ab l t p
  own : W.ownsRow (w.heap.size + 2) 9 1 (.slice p.ns t.names.length p.cs) t.names.length (t.names.map textV)
  many : t.many = m ∧ t.dmany = m
  tags : t.tags = [] ∧ p.at_ = none ∧ p.ct = 0
  next : t.next = [] ∧ p.an = none ∧ p.cn = 0
  len : t.names.length = k
  yes : readB l = true → t.names = T.names.take k ∧ at_ = nameAt T k
/-- the classes are being read -/
structure N2 (w W : World) (ab : Option Addr) (l : List UInt8) (T : Tab) (m : Int) (k : Nat) (t : Tab) (p : Lie) : Prop where
  rf : RfW w W ab l t p
  many : t.many = m ∧ t.dmany = m
  tags : t.tags = [] ∧ p.at_ = none ∧ p.ct = 0
  next : t.next = [] ∧ p.an = none ∧ p.cn = 0
  nsl : ∀ x, p.ns = some x → x.block < W.heap.size
  yes : readB l = true → t.names = T.names ∧ t.of.take k = T.of.take k
/-- the tags are being read -/
structure N3 (w W : World) (ab : Option Addr) (l : List UInt8) (T : Tab) (m : Int) (base k : Nat) (t : Tab) (p : Lie) : Prop where
  rf : RfW w W ab l t p
  many : t.many = m ∧ t.dmany = m
  own : W.ownsRow base 3 1 (.slice p.at_ t.tags.length p.ct) t.tags.length (t.tags.map intV)
  hb1 : w.heap.size + 2 ≤ base
  hb2 : base ≤ W.heap.size
  next : t.next = [] ∧ p.an = none ∧ p.cn = 0
  nsl : ∀ x, p.ns = some x → x.block < base
  len : t.tags.length = k
  yes : readB l = true → t.names = T.names ∧ t.of = T.of ∧ t.tags = T.tags.take k
/-- the ways are being read -/
structure N4 (w W : World) (ab : Option Addr) (l : List UInt8) (T : Tab) (m : Int) (base k : Nat) (t : Tab) (p : Lie) : Prop where
  rf : RfW w W ab l t p
  many : t.many = m ∧ t.dmany = m
  own : W.ownsRow base 3 1 (.slice p.an t.next.length p.cn) t.next.length (t.next.map intV)
  hb1 : w.heap.size + 2 ≤ base
  hb2 : base ≤ W.heap.size
  nsl : ∀ x, p.ns = some x → x.block < base
  tsl : ∀ x, p.at_ = some x → x.block < base
  len : t.next.length = k
  yes : readB l = true → t.names = T.names ∧ t.of = T.of ∧ t.tags = T.tags ∧ t.next = T.next.take k
attribute [local go_sem ↓] loadOp_C loadOp_T allocOp_T storeOp_T buildOp_T appOp_eq appSOp_eq
set_option maxRecDepth 1000000 in
set_option maxHeartbeats 4000000 in
theorem rRead_any (ab : Option Addr) (l : List UInt8) (c n : Nat) (hn : l.length = n) (h6k : n ≤ 6000) (hc : n ≤ c) (hm : c ≤ maxLen) (w : World) (hb : BytesAt w ab l) :
    Calls Try.prog 16 #[.slice ab n c] w fun e w' => ∃ lie, e = .returned (.tuple #[.agg (tabCells (readT l) lie).toArray, .int .i64 (readZ l)]) ∧ Below w.heap.size w w' ∧ TabAt w' (readT l) lie ∧ LieFrom w.heap.size lie := by
  obtain ⟨Z, hZ⟩ : ∃ Z, (tabCells zeroTab zeroLie).toArray = Z := ⟨_, rfl⟩
  have HRUN0 := alloc_run
  have HBLD := build_run
  rw [hZ] at HRUN0 HBLD
  have HZ := Lib.hid hZ
  have HSZ : Hid ((Try.prog.info? 30).map (·.size) = some Z.size) := by show _ = _; rw [table_size, ← hZ, List.size_toArray, tab_len zeroTab zeroLie List.length_replicate]
  have h0 := RfW.start hb
  rw [hZ] at h0
  have HNO : Hid (∀ W t p, RfW w W ab l t p → (StoreOp 30 (.pointer (some ⟨w.heap.size, 0, none⟩)) (.agg Z)).run Try.prog W = .ok () (W.setRow w.heap.size Z) ∧ Below w.heap.size w (W.setRow w.heap.size Z) ∧ TabAt (W.setRow w.heap.size Z) zeroTab zeroLie ∧ Blk (W.setRow w.heap.size Z) w.heap.size 30 Z) := fun W t p hW => by
    have := hW.out zeroTab zeroLie (zero_at W) (fun x hx => (by cases hx)) (fun x hx => (by cases hx)) (fun x hx => (by cases hx))
    rw [hZ] at this
    exact this
  have HFIN : Hid (readB l = false → readT l = zeroTab ∧ readZ l = 100) := fun h => ⟨by unfold readT; rw [h]; rfl, by unfold readZ; rw [h]; rfl⟩
  have HR0 := Lib.hid h0
  have hm2 : c ≤ 9223372036854775807 := by simpa [maxLen] using hm
  obtain ⟨T, hT⟩ : ∃ T, readT l = T := ⟨_, rfl⟩
  have HREF : Hid (readB l = true → RefP l T) := fun h => by rw [← hT]; exact refP h
  by_cases h7 : n < 7
  · have hrb : readB l = false := by
      rw [← Bool.not_eq_true]
      intro h
      have := (HREF.out h).seven
      omega
    have HE := Lib.hid (HFIN.out hrb)
    have e9 := (HNO.out _ _ _ HR0.out).1
    have h7' : (n : Int) < 7 := by omega
    clear hrb hZ h0 hb hn
    go_enter Try.func16, Try.ntmps16
    go_wp2
    have HO := Lib.hid (HNO.out _ _ _ HR0.out).2
    (try simp only [Exit.inBlock, Exit.then])
    refine bodyPost_ret (results_cell_tmp rfl _ _ w.heap.size 30 _ (0, 0) _ rfl HO.out.2.2 Try.underlying30 rfl HSZ.out) rfl ?_
    refine ⟨zeroLie, ?_, HO.out.1, ?_⟩
    · rw [HE.out.1, HE.out.2, HZ.out]; rfl
    · rw [HE.out.1]; exact ⟨HO.out.2.1, zero_from _⟩
  obtain ⟨g, off, hab⟩ : ∃ g off, ab = some ⟨g, off, none⟩ := by
    obtain ⟨b, off, e1, _⟩ := RowAt.row hb (by rw [List.length_map]; omega)
    exact ⟨b, off, e1⟩
  subst hab
  have HBY : Hid (∀ W t p, RfW w W (some ⟨g, off, none⟩) l t p → ∀ k, k < n → W.cell? ⟨g, off + k, none⟩ = some (.int .u8 ((byteN l k : Nat) : Int))) := fun W t p hW k hk => by
    obtain ⟨b, o, e, hc⟩ := hW.b.at_ (show k < l.length by omega)
    simp only [Option.some.injEq, Addr.mk.injEq, and_true] at e
    obtain ⟨rfl, rfl⟩ := e
    rw [hc, byteN_get (by omega)]
  have HLT := Lib.hid (byteN_lt l)
  obtain ⟨b3, h3⟩ : ∃ b, byteN l 3 = b := ⟨_, rfl⟩
  obtain ⟨b4, h4⟩ : ∃ b, byteN l 4 = b := ⟨_, rfl⟩
  obtain ⟨b5, h5⟩ : ∃ b, byteN l 5 = b := ⟨_, rfl⟩
  obtain ⟨b6, h6⟩ : ∃ b, byteN l 6 = b := ⟨_, rfl⟩
  have l3 : b3 < 256 := by rw [← h3]; exact byteN_lt l 3
  have l4 : b4 < 256 := by rw [← h4]; exact byteN_lt l 4
  have l5 : b5 < 256 := by rw [← h5]; exact byteN_lt l 5
  have l6 : b6 < 256 := by rw [← h6]; exact byteN_lt l 6
  obtain ⟨mn, hmn⟩ : ∃ mn : Nat, (b3 : Int) + 1 = (mn : Int) := ⟨b3 + 1, rfl⟩
  obtain ⟨st, hst⟩ : ∃ st : Nat, (b4 : Int) * 256 + (b5 : Int) = (st : Int) := ⟨b4 * 256 + b5, rfl⟩
  have HR3 := Lib.hid (h0.setMany (mn : Int))
  have HR4 := Lib.hid (HR3.out.setDmany (mn : Int))
  have c3 := HBY.out _ _ _ h0 3 (by omega)
  rw [h3] at c3
  have f0 := h0.frozen 256
  have q0 := h0.cells.1
  have f1 := HR3.out.frozen 257
  have q1 := HR3.out.cells.1
  have q2 := HR3.out.cells.2.1
  have hi3 : (3 : Int) < (n : Int) := by omega
  have hi4 : (4 : Int) < (n : Int) := by omega
  have hi5 : (5 : Int) < (n : Int) := by omega
  have hi6 : (6 : Int) < (n : Int) := by omega
  have h7' : ¬ (n : Int) < 7 := by omega
  have HB3 := Lib.hid h3
  have HB4 := Lib.hid h4
  have HB5 := Lib.hid h5
  have HB6 := Lib.hid h6
  have HN := Lib.hid hn
  clear hZ h0 hb hn h3 h4 h5 h6 hT
  go_enter Try.func16, Try.ntmps16
  go_upto_region 2 with (fail)
  generalize (w.alloc (.cells Z 30)).alloc (.cells Z 30) = W2 at *
  go_wp2
  generalize (W2.setCell ⟨w.heap.size + 1, 256, none⟩ (.int .i64 (mn : Int))).setCell ⟨w.heap.size + 1, 257, none⟩ (.int .i64 (mn : Int)) = W4 at *
  have c4 := HBY.out _ _ _ HR4.out 4 (by omega)
  have c5 := HBY.out _ _ _ HR4.out 5 (by omega)
  rw [HB4.out] at c4
  rw [HB5.out] at c5
  clear q0 q1 q2 f0 f1 c3 HR3 HR0
  go_quiet (fail)
  have HN0 : Hid (N1 w (W4.drewN nq) (some ⟨g, off, none⟩) l T (mn : Int) 0 7 _ _) := ⟨HR4.out.later (below_drewN (Below.refl _ _) nq), World.ownsRow_nil _ _ _ _, ⟨rfl, rfl⟩, ⟨rfl, rfl, rfl⟩, ⟨rfl, rfl, rfl⟩, rfl, fun _ => ⟨rfl, rfl⟩⟩
  have HMN := Lib.hid hmn
  have HST := Lib.hid hst
  have hst6 : st < 65536 := by omega
  have hmn6 : mn ≤ 256 := by omega
  clear c4 c5 HR4 hmn hst
  go_wp2
  clear hi3 hi4 hi5
  go_loopw [6, 7] (fun a i wr => ∃ (k at_ : Nat) (t : Tab) (p : Lie), a = .int .i64 at_ ∧ i = .int .i64 k ∧ k ≤ b6 ∧ 7 ≤ at_ ∧ at_ ≤ n ∧ Hid (N1 w wr (some ⟨g, off, none⟩) l T (mn : Int) k at_ t p)) (fun _ i _ => b6 - (intOf i).toNat)
  case atStart => exact ⟨0, 7, _, _, rfl, rfl, Nat.zero_le _, Nat.le_refl _, by omega, HN0⟩
  case round =>
    clear HN0
    obtain ⟨k, at_, t, p, rfl, rfl, hk, hat7, hatn, HN1⟩ := hrel
    have c6 := HBY.out _ _ _ HN1.out.rf 6 (by omega)
    rw [HB6.out] at c6
    by_cases hlt : k < b6
    · have hlt2 : (k : Int) < (b6 : Int) := by omega
      by_cases ha : n ≤ at_
      · have hrb : readB l = false := by
          rw [← Bool.not_eq_true]
          intro h
          have hr := HREF.out h
          have h1 := (hr.name k (by rw [← hr.names, HB6.out]; exact hlt)).1
          have h2 := (HN1.out.yes h).2
          rw [HN.out] at h1
          omega
        have HE := Lib.hid (HFIN.out hrb)
        have e9 := (HNO.out _ _ _ HN1.out.rf).1
        have ha2 : (n : Int) ≤ (at_ : Int) := by omega
        clear hrb
        go_wp2
        have HO := Lib.hid (HNO.out _ _ _ HN1.out.rf).2
        (try simp only [Exit.inBlock, Exit.then])
        refine bodyPost_ret (results_cell_tmp rfl _ _ w.heap.size 30 _ (0, 0) _ rfl HO.out.2.2 Try.underlying30 rfl HSZ.out) rfl ?_
        refine ⟨zeroLie, ?_, HO.out.1, ?_⟩
        · rw [HE.out.1, HE.out.2, HZ.out]; rfl
        · rw [HE.out.1]; exact ⟨HO.out.2.1, zero_from _⟩
      have ha2 : ¬ (n : Int) ≤ (at_ : Int) := by omega
      have ha3 : (at_ : Int) < (n : Int) := by omega
      have cb := HBY.out _ _ _ HN1.out.rf at_ (by omega)
      obtain ⟨bl, hbl⟩ : ∃ b, byteN l at_ = b := ⟨_, rfl⟩
      have lbl : bl < 256 := by rw [← hbl]; exact HLT.out at_
      rw [hbl] at cb
      have HBL := Lib.hid hbl
      clear hbl
      by_cases hb : n < at_ + 1 + bl
      · have hrb : readB l = false := by
          rw [← Bool.not_eq_true]
          intro h
          have hr := HREF.out h
          obtain ⟨_, h1, h2, _⟩ := hr.name k (by rw [← hr.names, HB6.out]; exact hlt)
          have h3 := (HN1.out.yes h).2
          rw [HN.out] at h2
          rw [← h3, HBL.out] at h1
          omega
        have HE := Lib.hid (HFIN.out hrb)
        have e9 := (HNO.out _ _ _ HN1.out.rf).1
        have hb2 : (n : Int) < (at_ : Int) + 1 + (bl : Int) := by omega
        clear hrb
        go_wp2
        have HO := Lib.hid (HNO.out _ _ _ HN1.out.rf).2
        (try simp only [Exit.inBlock, Exit.then])
        refine bodyPost_ret (results_cell_tmp rfl _ _ w.heap.size 30 _ (0, 0) _ rfl HO.out.2.2 Try.underlying30 rfl HSZ.out) rfl ?_
        refine ⟨zeroLie, ?_, HO.out.1, ?_⟩
        · rw [HE.out.1, HE.out.2, HZ.out]; rfl
        · rw [HE.out.1]; exact ⟨HO.out.2.1, zero_from _⟩
      have hb2 : ¬ (n : Int) < (at_ : Int) + 1 + (bl : Int) := by omega
      obtain ⟨s, hs⟩ : ∃ s, (l.drop (at_ + 1)).take bl = s := ⟨_, rfl⟩
      have hsl : s.length = bl := by rw [← hs, List.length_take, List.length_drop, HN.out]; omega
      have hby := drop_bytes HN1.out.rf.b (at_ + 1) bl (by rw [HN.out]; omega)
      rw [hs] at hby
      have hby2 : BytesAt wr (if c = at_ + 1 then some ⟨g, off, none⟩ else some ⟨g, off + (at_ + 1), none⟩) s := by
        split
        · exact ⟨by rw [List.length_map]; unfold maxLen; omega, fun h => by rw [List.length_map] at h; omega⟩
        · exact hby
      have hcv : ∀ (W : World), BytesAt W (if c = at_ + 1 then some ⟨g, off, none⟩ else some ⟨g, off + (at_ + 1), none⟩) s → (convert 31 9 (.slice (if c = at_ + 1 then some ⟨g, off, none⟩ else some ⟨g, off + (at_ + 1), none⟩) (at_ + 1 + bl - (at_ + 1)) (c - (at_ + 1)))).run Try.prog W = .ok (.string (bs s)) W := fun W h => by
        have := conv_any W _ s (c - (at_ + 1)) h
        rw [hsl] at this
        rw [show at_ + 1 + bl - (at_ + 1) = bl from by omega]
        exact this
      have cv1 := hcv wr hby2
      have cv2 := hcv wr.drew (RowAt.below hby2 (Below.refl _ _).drew)
      have cv3 := cv2
      have cv4 := cv1
      rw [show at_ + 1 + bl - (at_ + 1) = bl from by omega] at cv3 cv4
      obtain ⟨g', cap', w1, hap, hg', hput, hown⟩ := HN1.out.rf.addName (w.heap.size + 2) (Nat.le_refl _) HN1.out.rf.size HN1.out.own (fun x hx => by rw [HN1.out.next.2.1] at hx; cases hx) (fun x hx => by rw [HN1.out.tags.2.1] at hx; cases hx) s (by unfold maxLen; omega) (by rw [HN1.out.len]; omega)
      have q5 := HN1.out.rf.cells.2.2.2.2
      have q6 : (wr.alloc (.cells #[.string (bs s)] 9)).drew.cell? ⟨w.heap.size + 1, 260, none⟩ = some (.slice p.ns t.names.length p.cs) := cell_still q5 _
      have q7 : (wr.alloc (.cells #[.string (bs s)] 9)).drew.cell? ⟨g, off + at_, none⟩ = some (.int .u8 (bl : Int)) := cell_still cb _
      have cv5 := hcv (wr.alloc (.cells #[.string (bs s)] 9)).drew (RowAt.below hby2 (((Below.refl _ _).alloc (Nat.le_refl _) _).drew))
      have HPUT := Lib.hid hput
      have HOWN := Lib.hid hown
      have pc := hput.cell
      have pf := hput.frozen
      have hc1 : at_ + 1 + bl ≤ c := by omega
      clear hcv hby hby2 hput hown hg'
      go_wp2
      go_region
      generalize w1.setCell ⟨w.heap.size + 1, 260, none⟩ (.slice (some ⟨g', 0, none⟩) (t.names.length + 1) cap') = W9 at *
      have HN9 : Hid (N1 w W9 (some ⟨g, off, none⟩) l T (mn : Int) (k + 1) (at_ + 1 + bl) _ _) := ⟨HPUT.out.rf, by
        have := HOWN.out
        rw [show t.names.length + 1 = (t.names ++ [s]).length from by simp] at this
        exact this, HN1.out.many, HN1.out.tags, HN1.out.next, by show (t.names ++ [s]).length = k + 1; rw [List.length_append, HN1.out.len]; rfl, fun h => by
        have hr := HREF.out h
        have hk2 : k < T.names.length := by rw [← hr.names, HB6.out]; exact hlt
        obtain ⟨_, e1, _, e2, e3⟩ := hr.name k hk2
        obtain ⟨y1, y2⟩ := HN1.out.yes h
        rw [← y2, HBL.out] at e1
        rw [← y2, ← e1, hs] at e2
        refine ⟨?_, by rw [e3, ← y2, ← e1]⟩
        show t.names ++ [s] = _
        rw [List.take_succ_eq_append_getElem hk2, y1, e2]⟩
      have cb9 := HBY.out _ _ _ HPUT.out.rf at_ (by omega)
      rw [HBL.out] at cb9
      clear cv1 cv2 cv3 cv4 cv5 hap q5 q6 q7 pc pf cb hs hsl HPUT HOWN
      go_wp2
      go_roundw
      case rel => exact ⟨k + 1, at_ + 1 + bl, _, _, by go_num, by go_num, by omega, by omega, by omega, HN9⟩
      case measure => simp [intOf]; omega
    · have hlt2 : ¬ (k : Int) < (b6 : Int) := by omega
      have hkk : k = b6 := by omega
      have HYES : Hid (readB l = true → t.names = T.names ∧ at_ = nameAt T T.names.length) := fun h => by
        have hr := HREF.out h
        obtain ⟨y1, y2⟩ := HN1.out.yes h
        have e : k = T.names.length := by rw [← hr.names, HB6.out, hkk]
        rw [e, List.take_length] at y1
        rw [e] at y2
        exact ⟨y1, y2⟩
      obtain ⟨pp, hpp⟩ : ∃ pp, 2 * st * mn = pp := ⟨_, rfl⟩
      have hpp1 : pp ≤ 2 * 65536 * 256 := by rw [← hpp]; exact Nat.mul_le_mul (by omega) hmn6
      have HPP := Lib.hid hpp
      have fpp : IntKind.i64.wrap (2 * (st : Int) * (mn : Int)) = (pp : Int) := by
        rw [show 2 * (st : Int) * (mn : Int) = ((2 * st * mn : Nat) : Int) from by simp, hpp]
        exact IntWalk.i64_in _ (by omega)
      have q1 : wr.cell? ⟨w.heap.size + 1, 256, none⟩ = some (.int .i64 (mn : Int)) := by
        have := HN1.out.rf.cells.1
        rw [HN1.out.many.1] at this
        exact this
      clear hpp hkk
      by_cases hck : n = at_ + (256 + st + pp)
      · have hck2 : ((n : Int) - (at_ : Int) == 256 + (st : Int) + (pp : Int)) = true := by rw [beq_iff_eq]; omega
        have hck3 : (n : Int) - (at_ : Int) = 256 + (st : Int) + (pp : Int) := by omega
        clear hck3
        have HQ : Hid (readB l = true → T.tags.length = st ∧ T.next.length = st * mn) := fun h => by
          have hr := HREF.out h
          have e3 := hr.right.len
          have e4 := hr.states
          have e5 := hr.many
          have e6 := HMN.out
          have e7 := HST.out
          rw [HB4.out, HB5.out] at e4
          rw [HB3.out, e6] at e5
          rw [← e5] at e3
          have e8 : T.tags.length = st := by omega
          rw [e8] at e3
          have : ((st * mn : Nat) : Int) = (st : Int) * (mn : Int) := by simp
          exact ⟨e8, by omega⟩
        obtain ⟨qq, hqq⟩ : ∃ qq, st * mn = qq := ⟨_, rfl⟩
        have hpq : pp = 2 * qq := by rw [← HPP.out, ← hqq, Nat.mul_assoc]
        have fqq : IntKind.i64.wrap ((st : Int) * (mn : Int)) = (qq : Int) := by
          rw [show (st : Int) * (mn : Int) = ((st * mn : Nat) : Int) from by simp, hqq]
          exact IntWalk.i64_in _ (by omega)
        rw [hqq] at HQ
        have HN2 : Hid (N2 w wr (some ⟨g, off, none⟩) l T (mn : Int) 0 t p) := ⟨HN1.out.rf, HN1.out.many, HN1.out.tags, HN1.out.next, fun x hx => by
          have := HN1.out.own
          rw [hx] at this
          exact (this.lt x.block (by
            rcases this.2 with ⟨e, _⟩ | ⟨g2, cap2, cur, e, _⟩
            · cases e
            · simp only [Value.slice.injEq, Option.some.injEq] at e
              rw [e.1]; rfl)).2, fun h => ⟨(HYES.out h).1, rfl⟩⟩
        have HAT : Hid (readB l = true → at_ = nameAt T T.names.length) := fun h => (HYES.out h).2
        clear HYES HN1 hqq
        go_wp2
        clear q1 c6 fpp hck2
        go_loopw [8] (fun i wr => ∃ (k : Nat) (t : Tab) (p : Lie), i = .int .i64 k ∧ k ≤ 256 ∧ Hid (N2 w wr (some ⟨g, off, none⟩) l T (mn : Int) k t p)) (fun i _ => 256 - (intOf i).toNat)
        case atStart => exact ⟨0, _, _, rfl, Nat.zero_le _, HN2⟩
        case round =>
          clear HN2
          obtain ⟨k, t, p, rfl, hk, HN2⟩ := hrel
          by_cases hlt : k < 256
          · have hlt2 : (k : Int) < 256 := by omega
            have cb := HBY.out _ _ _ HN2.out.rf (at_ + k) (by omega)
            obtain ⟨cc, hcc⟩ : ∃ cc, l.getD (at_ + k) 0 = cc := ⟨_, rfl⟩
            have hcc2 : byteN l (at_ + k) = cc.toNat := by unfold byteN; rw [hcc]
            rw [hcc2] at cb
            have HCC := Lib.hid hcc2
            have hko : k < t.of.length := by rw [HN2.out.rf.tab.of]; exact hlt
            have co : wr.cell? ⟨w.heap.size + 1, k, none⟩ = some (.int .u8 (t.of[k].toNat : Int)) := (TabIn.mk HN2.out.rf.var HN2.out.rf.tab).byte k hko
            have fo := HN2.out.rf.frozen k
            have hix : (at_ : Int) + (k : Int) < (n : Int) := by omega
            have HRF := Lib.hid (HN2.out.rf.setOf k hlt cc)
            have hix2 : ((at_ : Int) + (k : Int)).toNat = at_ + k := by omega
            clear hcc hcc2
            generalize t.of[k] = old at *
            go_wp2
            have HN3 : Hid (N2 w _ (some ⟨g, off, none⟩) l T (mn : Int) (k + 1) _ p) := ⟨HRF.out, HN2.out.many, HN2.out.tags, HN2.out.next, fun x hx => by
              have := HN2.out.nsl x hx
              simpa [World.setCell] using this, fun h => by
              obtain ⟨y1, y2⟩ := HN2.out.yes h
              refine ⟨y1, ?_⟩
              have hr := HREF.out h
              have hkT : k < T.of.length := by rw [hr.of]; exact hlt
              have e1 := hr.ofAt k hkT
              rw [← HAT.out h, HCC.out] at e1
              have e2 : cc = T.of[k] := UInt8.toNat.inj e1
              have hks : k < (t.of.set k cc).length := by rw [List.length_set]; exact hko
              show (t.of.set k cc).take (k + 1) = T.of.take (k + 1)
              rw [List.take_succ_eq_append_getElem hks, List.take_succ_eq_append_getElem hkT, List.getElem_set_self, ← e2]
              rw [List.take_set_of_le (Nat.le_refl _), y2]⟩
            go_roundw
            case rel => exact ⟨k + 1, _, _, by go_num, by omega, HN3⟩
            case measure => simp [intOf]; omega
          · have hlt2 : ¬ (k : Int) < 256 := by omega
            have hk2 : k = 256 := by omega
            have HN3 : Hid (N3 w wr (some ⟨g, off, none⟩) l T (mn : Int) wr.heap.size 0 t p) := ⟨HN2.out.rf, HN2.out.many, by rw [HN2.out.tags.1, HN2.out.tags.2.1, HN2.out.tags.2.2]; exact World.ownsRow_nil _ _ _ _, HN2.out.rf.size, Nat.le_refl _, HN2.out.next, HN2.out.nsl, by rw [HN2.out.tags.1]; rfl, fun h => by
              obtain ⟨y1, y2⟩ := HN2.out.yes h
              have hr := HREF.out h
              rw [List.take_of_length_le (by rw [HN2.out.rf.tab.of]; omega), List.take_of_length_le (by rw [hr.of]; omega)] at y2
              exact ⟨y1, y2, by rw [HN2.out.tags.1]; rfl⟩⟩
            generalize wr.heap.size = bT at HN3
            clear HN2 hk2
            go_wp2
            go_loopw [9] (fun i wr => ∃ (k : Nat) (t : Tab) (p : Lie), i = .int .i64 k ∧ k ≤ st ∧ Hid (N3 w wr (some ⟨g, off, none⟩) l T (mn : Int) bT k t p)) (fun i _ => st - (intOf i).toNat)
            case atStart => exact ⟨0, _, _, rfl, Nat.zero_le _, HN3⟩
            case round =>
              clear HN3 hlt hlt2 hk
              obtain ⟨k, t, p, rfl, hk, HN3⟩ := hrel
              by_cases hlt : k < st
              · have hlt2 : (k : Int) < (st : Int) := by omega
                have cb := HBY.out _ _ _ HN3.out.rf (at_ + 256 + k) (by omega)
                obtain ⟨bb, hbb⟩ : ∃ b, byteN l (at_ + 256 + k) = b := ⟨_, rfl⟩
                have lbb : bb < 256 := by rw [← hbb]; exact HLT.out _
                rw [hbb] at cb
                have HBB := Lib.hid hbb
                clear hbb
                have hix : (at_ : Int) + 256 + (k : Int) < (n : Int) := by omega
                have hix2 : ((at_ : Int) + 256 + (k : Int)).toNat = at_ + 256 + k := by omega
                obtain ⟨g', cap', w1, hap, hg', hput, hown⟩ := HN3.out.rf.addTag bT HN3.out.hb1 HN3.out.hb2 HN3.out.own (fun x hx => by rw [HN3.out.next.2.1] at hx; cases hx) HN3.out.nsl ((bb : Int) - 1) (by rw [HN3.out.len]; omega)
                have q5 := HN3.out.rf.cells.2.2.2.1
                have q6 : (wr.alloc (.cells #[.int .i64 ((bb : Int) - 1)] 3)).drew.cell? ⟨w.heap.size + 1, 259, none⟩ = some (.slice p.at_ t.tags.length p.ct) := cell_still q5 _
                have q7 : (wr.alloc (.cells #[.int .i64 ((bb : Int) - 1)] 3)).drew.cell? ⟨g, off + (at_ + 256 + k), none⟩ = some (.int .u8 (bb : Int)) := cell_still cb _
                have HPUT := Lib.hid hput
                have HOWN := Lib.hid hown
                have pc := hput.cell
                have pf := hput.frozen
                clear hput hown
                go_wp2
                go_region
                have HSZW : Hid (bT ≤ (w1.setCell ⟨w.heap.size + 1, 259, none⟩ (.slice (some ⟨g', 0, none⟩) (t.tags.length + 1) cap')).heap.size) := by
                  have := (HOWN.out.lt g' rfl).2
                  show _ ≤ _
                  omega
                generalize w1.setCell ⟨w.heap.size + 1, 259, none⟩ (.slice (some ⟨g', 0, none⟩) (t.tags.length + 1) cap') = W9 at *
                have HN9 : Hid (N3 w W9 (some ⟨g, off, none⟩) l T (mn : Int) bT (k + 1) _ _) := ⟨HPUT.out.rf, HN3.out.many, by
                  have := HOWN.out
                  rw [show t.tags.length + 1 = (t.tags ++ [(bb : Int) - 1]).length from by simp] at this
                  exact this, HN3.out.hb1, HSZW.out, HN3.out.next, HN3.out.nsl, by show (t.tags ++ [(bb : Int) - 1]).length = k + 1; rw [List.length_append, HN3.out.len]; rfl, fun h => by
                  obtain ⟨y1, y2, y3⟩ := HN3.out.yes h
                  have hr := HREF.out h
                  have hkT : k < T.tags.length := by rw [(HQ.out h).1]; exact hlt
                  have e1 := hr.tagAt k hkT
                  rw [← HAT.out h, HBB.out] at e1
                  refine ⟨y1, y2, ?_⟩
                  show t.tags ++ [(bb : Int) - 1] = _
                  rw [List.take_succ_eq_append_getElem hkT, y3, e1]⟩
                clear hap q5 q6 q7 pc pf cb HPUT HOWN HSZW
                go_wp2
                go_roundw
                case rel => exact ⟨k + 1, _, _, by go_num, by omega, HN9⟩
                case measure => simp [intOf]; omega
              · have hlt2 : ¬ (k : Int) < (st : Int) := by omega
                have hk2 : k = st := by omega
                have HN4 : Hid (N4 w wr (some ⟨g, off, none⟩) l T (mn : Int) wr.heap.size 0 t p) := ⟨HN3.out.rf, HN3.out.many, by rw [HN3.out.next.1, HN3.out.next.2.1, HN3.out.next.2.2]; exact World.ownsRow_nil _ _ _ _, HN3.out.rf.size, Nat.le_refl _, fun x hx => Nat.lt_of_lt_of_le (HN3.out.nsl x hx) HN3.out.hb2, fun x hx => by
                  have := HN3.out.own
                  rw [hx] at this
                  exact (this.lt x.block (by
                    rcases this.2 with ⟨e, _⟩ | ⟨g2, cap2, cur, e, _⟩
                    · cases e
                    · simp only [Value.slice.injEq, Option.some.injEq] at e
                      rw [e.1]; rfl)).2, by rw [HN3.out.next.1]; rfl, fun h => by
                  obtain ⟨y1, y2, y3⟩ := HN3.out.yes h
                  rw [hk2, ← (HQ.out h).1, List.take_length] at y3
                  exact ⟨y1, y2, y3, by rw [HN3.out.next.1]; rfl⟩⟩
                generalize wr.heap.size = bN at HN4
                clear HN3 hk2
                go_wp2
                go_loopw [10] (fun i wr => ∃ (k : Nat) (t : Tab) (p : Lie), i = .int .i64 k ∧ k ≤ qq ∧ Hid (N4 w wr (some ⟨g, off, none⟩) l T (mn : Int) bN k t p)) (fun i _ => qq - (intOf i).toNat)
                case atStart => exact ⟨0, _, _, rfl, Nat.zero_le _, HN4⟩
                case round =>
                  clear HN4 hlt hlt2 hk
                  obtain ⟨k, t, p, rfl, hk, HN4⟩ := hrel
                  have qm : wr.cell? ⟨w.heap.size + 1, 256, none⟩ = some (.int .i64 (mn : Int)) := by
                    have := HN4.out.rf.cells.1
                    rw [HN4.out.many.1] at this
                    exact this
                  by_cases hlt : k < qq
                  · have hlt2 : (k : Int) < (qq : Int) := by omega
                    have cb := HBY.out _ _ _ HN4.out.rf (at_ + 256 + st + 2 * k) (by omega)
                    have ce := HBY.out _ _ _ HN4.out.rf (at_ + 256 + st + 2 * k + 1) (by omega)
                    obtain ⟨bb, hbb⟩ : ∃ b, byteN l (at_ + 256 + st + 2 * k) = b := ⟨_, rfl⟩
                    obtain ⟨be, hbe⟩ : ∃ b, byteN l (at_ + 256 + st + 2 * k + 1) = b := ⟨_, rfl⟩
                    have lbb : bb < 256 := by rw [← hbb]; exact HLT.out _
                    have lbe : be < 256 := by rw [← hbe]; exact HLT.out _
                    rw [hbb] at cb
                    rw [hbe] at ce
                    have HBB := Lib.hid hbb
                    have HBE := Lib.hid hbe
                    clear hbb hbe
                    have hix : (at_ : Int) + 256 + (st : Int) + 2 * (k : Int) < (n : Int) := by omega
                    have hix2 : ((at_ : Int) + 256 + (st : Int) + 2 * (k : Int)).toNat = at_ + 256 + st + 2 * k := by omega
                    have hix3 : (at_ : Int) + 256 + (st : Int) + 2 * (k : Int) + 1 < (n : Int) := by omega
                    have hix4 : ((at_ : Int) + 256 + (st : Int) + 2 * (k : Int) + 1).toNat = at_ + 256 + st + 2 * k + 1 := by omega
                    obtain ⟨g', cap', w1, hap, hg', hput, hown⟩ := HN4.out.rf.addNext bN HN4.out.hb1 HN4.out.hb2 HN4.out.own HN4.out.tsl HN4.out.nsl ((bb : Int) * 256 + (be : Int) - 1) (by rw [HN4.out.len]; omega)
                    have q5 := HN4.out.rf.cells.2.2.1
                    have q6 : (wr.alloc (.cells #[.int .i64 ((bb : Int) * 256 + (be : Int) - 1)] 3)).drew.cell? ⟨w.heap.size + 1, 258, none⟩ = some (.slice p.an t.next.length p.cn) := cell_still q5 _
                    have q7 : (wr.alloc (.cells #[.int .i64 ((bb : Int) * 256 + (be : Int) - 1)] 3)).drew.cell? ⟨g, off + (at_ + 256 + st + 2 * k), none⟩ = some (.int .u8 (bb : Int)) := cell_still cb _
                    have q8 : (wr.alloc (.cells #[.int .i64 ((bb : Int) * 256 + (be : Int) - 1)] 3)).drew.cell? ⟨g, off + (at_ + 256 + st + 2 * k + 1), none⟩ = some (.int .u8 (be : Int)) := cell_still ce _
                    have HPUT := Lib.hid hput
                    have HOWN := Lib.hid hown
                    have pc := hput.cell
                    have pf := hput.frozen
                    clear hput hown
                    go_wp2
                    go_region
                    have HSZW : Hid (bN ≤ (w1.setCell ⟨w.heap.size + 1, 258, none⟩ (.slice (some ⟨g', 0, none⟩) (t.next.length + 1) cap')).heap.size) := by
                      have := (HOWN.out.lt g' rfl).2
                      show _ ≤ _
                      omega
                    generalize w1.setCell ⟨w.heap.size + 1, 258, none⟩ (.slice (some ⟨g', 0, none⟩) (t.next.length + 1) cap') = W9 at *
                    have HN9 : Hid (N4 w W9 (some ⟨g, off, none⟩) l T (mn : Int) bN (k + 1) _ _) := ⟨HPUT.out.rf, HN4.out.many, by
                      have := HOWN.out
                      rw [show t.next.length + 1 = (t.next ++ [(bb : Int) * 256 + (be : Int) - 1]).length from by simp] at this
                      exact this, HN4.out.hb1, HSZW.out, HN4.out.nsl, HN4.out.tsl, by show (t.next ++ [(bb : Int) * 256 + (be : Int) - 1]).length = k + 1; rw [List.length_append, HN4.out.len]; rfl, fun h => by
                      obtain ⟨y1, y2, y3, y4⟩ := HN4.out.yes h
                      have hr := HREF.out h
                      have hkT : k < T.next.length := by rw [(HQ.out h).2]; exact hlt
                      have e1 := hr.nextAt k hkT
                      rw [← HAT.out h, (HQ.out h).1, HBB.out, HBE.out] at e1
                      refine ⟨y1, y2, y3, ?_⟩
                      show t.next ++ [(bb : Int) * 256 + (be : Int) - 1] = _
                      rw [List.take_succ_eq_append_getElem hkT, y4, ← e1]
                      simp⟩
                    clear hap q5 q6 q7 q8 pc pf cb ce HPUT HOWN HSZW qm
                    go_wp2
                    go_roundw
                    case rel => exact ⟨k + 1, _, _, by go_num, by omega, HN9⟩
                    case measure => simp [intOf]; omega
                  · have hlt2 : ¬ (k : Int) < (qq : Int) := by omega
                    have hk2 : k = qq := by omega
                    have HYS : Hid (readB l = true → t = T) := fun h => by
                      obtain ⟨y1, y2, y3, y4⟩ := HN4.out.yes h
                      have hr := HREF.out h
                      rw [hk2, ← (HQ.out h).2, List.take_length] at y4
                      have m1 := hr.right.same
                      have m2 := hr.many
                      have m3 := HMN.out
                      have m4 := HN4.out.many
                      rw [HB3.out] at m2
                      cases t
                      cases T
                      simp only at y1 y2 y3 y4 m1 m2 m4
                      simp only [Tab.mk.injEq]
                      exact ⟨y2, by omega, by omega, y4, y3, y1⟩
                    have HRF := Lib.hid HN4.out.rf
                    clear HN4 hk2 HQ HAT
                    have ldt := (TabIn.mk HRF.out.var HRF.out.tab).read.all
                    obtain ⟨X, hX⟩ : ∃ X, (tabCells t p).toArray = X := ⟨_, rfl⟩
                    rw [hX] at ldt
                    cases hrt : tabRightB t with
                    | false =>
                      have hrb : readB l = false := by
                        rw [← Bool.not_eq_true]
                        intro h
                        have := (HREF.out h).rb
                        rw [← HYS.out h, hrt] at this
                        cases this
                      have HE := Lib.hid (HFIN.out hrb)
                      have HPN := Lib.hid (rPack_no t p X hX wr HRF.out.tab hrt)
                      clear hrb hrt hX
                      go_wp2_with (go_at_call 14; refine HPN.out.mono ?_; rintro e w5 ⟨rfl, hb5⟩; have HRG := Lib.hid (HRF.out.later hb5); have e9 := (HNO.out _ _ _ HRG.out).1; clear hb5)
                      have HO := Lib.hid (HNO.out _ _ _ HRG.out).2
                      (try simp only [Exit.inBlock, Exit.then])
                      refine bodyPost_ret (results_cell_tmp rfl _ _ w.heap.size 30 _ (0, 0) _ rfl HO.out.2.2 Try.underlying30 rfl HSZ.out) rfl ?_
                      refine ⟨zeroLie, ?_, HO.out.1, ?_⟩
                      · rw [HE.out.1, HE.out.2, HZ.out]; rfl
                      · rw [HE.out.1]; exact ⟨HO.out.2.1, zero_from _⟩
                    | true =>
                      obtain ⟨P, hP⟩ : ∃ P, packP t = P := ⟨_, rfl⟩
                      obtain ⟨m, hm'⟩ : ∃ m, P.length = m := ⟨_, rfl⟩
                      have hpos : 0 < m := by have := packP_pos t; rw [hP, hm'] at this; exact this
                      have HPY : Hid (Calls Try.prog 14 #[.agg X] wr fun e w' => ∃ g cap, e = .returned (.tuple #[.slice (some ⟨g, 0, none⟩) m cap, .int .i64 0]) ∧ Hid (BytesAt w' (some ⟨g, 0, none⟩) P) ∧ Below wr.heap.size wr w') :=
                        (rPack_yes t p X hX wr HRF.out.tab hrt).mono fun e w' ⟨v, he, ho⟩ => by
                          rw [hP] at ho
                          obtain ⟨g, cap, hv, h1, h2, h3⟩ := ho.bytes hm' hpos
                          exact ⟨g, cap, by rw [he, hv], h1, ho.low⟩
                      obtain ⟨S1, hS1⟩ : ∃ S, bs P = S := ⟨_, rfl⟩
                      obtain ⟨S2, hS2⟩ : ∃ S, bs l = S := ⟨_, rfl⟩
                      have HC1 : Hid (∀ W a cc, BytesAt W a P → (convert 31 9 (.slice a m cc)).run Try.prog W = .ok (.string S1) W) := fun W a cc h => by
                        have := conv_any W a P cc h
                        rw [hm', hS1] at this
                        exact this
                      have HC2 : Hid (∀ W a cc, BytesAt W a l → (convert 31 9 (.slice a n cc)).run Try.prog W = .ok (.string S2) W) := fun W a cc h => by
                        have := conv_any W a l cc h
                        rw [HN.out, hS2] at this
                        exact this
                      have HOF := Lib.hid HRF.out.tab.of
                      by_cases hPl : P = l
                      · have hSS : S1 = S2 := by rw [← hS1, ← hS2, hPl]
                        subst hSS
                        obtain ⟨rb1, rb2⟩ := readB_pack t hrt HOF.out
                        rw [hP, hPl] at rb1 rb2
                        have HE : Hid (readT l = t ∧ readZ l = 0) := ⟨rb2, by unfold readZ; rw [rb1]; rfl⟩
                        have HXX := Lib.hid hX
                        have HYE : Hid (∀ W, RfW w W (some ⟨g, off, none⟩) l t p → (LoadOp 30 (.pointer (some ⟨w.heap.size + 1, 0, none⟩))).run Try.prog W = .ok (.agg X) W ∧ (StoreOp 30 (.pointer (some ⟨w.heap.size, 0, none⟩)) (.agg X)).run Try.prog W = .ok () (W.setRow w.heap.size X) ∧ Below w.heap.size w (W.setRow w.heap.size X) ∧ TabAt (W.setRow w.heap.size X) t p ∧ Blk (W.setRow w.heap.size X) w.heap.size 30 X) := fun W hW => by
                          have h1 := (TabIn.mk hW.var hW.tab).read.all
                          have h2 := hW.out t p hW.tab hW.pn hW.pt hW.ps
                          rw [hX] at h1 h2
                          exact ⟨h1, h2⟩
                        have HSX : Hid ((Try.prog.info? 30).map (·.size) = some X.size) := by show _ = _; rw [table_size, ← hX, List.size_toArray, tab_len _ _ HOF.out]
                        clear hPl rb1 rb2 hrt hX hP hm' hpos hS1 hS2
                        go_wp2_with (go_at_call 14; refine HPY.out.mono ?_; rintro e w5 ⟨g5, cap5, rfl, hp5, hb5⟩; have HRG := Lib.hid (HRF.out.later hb5); have cv1 := HC1.out w5 _ cap5 hp5.out; have cv2 := HC2.out w5 _ c HRG.out.b; have cv3 := cv2; rw [hck, hpq] at cv3; have l5 := (HYE.out _ HRG.out).1; have e9 := (HYE.out _ HRG.out).2.1; clear hb5 hp5)
                        have HO := Lib.hid (HYE.out _ HRG.out).2.2
                        (try simp only [Exit.inBlock, Exit.then])
                        refine bodyPost_ret (results_cell_tmp rfl _ _ w.heap.size 30 _ (0, 0) _ rfl HO.out.2.2 Try.underlying30 rfl HSX.out) rfl ?_
                        refine ⟨p, ?_, HO.out.1, ?_⟩
                        · rw [HE.out.1, HE.out.2, HXX.out]; rfl
                        · rw [HE.out.1]; exact ⟨HO.out.2.1, ⟨fun x hx => by have := HRG.out.pn x hx; omega, fun x hx => by have := HRG.out.pt x hx; omega, fun x hx => by have := HRG.out.ps x hx; omega⟩⟩
                      · have hrb : readB l = false := by
                          rw [← Bool.not_eq_true]
                          intro h
                          have := (HREF.out h).pack
                          rw [← HYS.out h, hP] at this
                          exact hPl this
                        have HE := Lib.hid (HFIN.out hrb)
                        have hne1 : S1.toList ≠ S2.toList := fun e => hPl (by rw [← hS1, ← hS2] at e; simpa [bs, ByteArray.toList_eq] using e)
                        have hne : (S1.toList == S2.toList) = false := by simpa using hne1
                        clear hne1 hPl hrb hrt hX hP hm' hpos hS1 hS2
                        go_wp2_with (go_at_call 14; refine HPY.out.mono ?_; rintro e w5 ⟨g5, cap5, rfl, hp5, hb5⟩; have HRG := Lib.hid (HRF.out.later hb5); have cv1 := HC1.out w5 _ cap5 hp5.out; have cv2 := HC2.out w5 _ c HRG.out.b; have cv3 := cv2; rw [hck, hpq] at cv3; have e9 := (HNO.out _ _ _ HRG.out).1; clear hb5 hp5)
                        have HO := Lib.hid (HNO.out _ _ _ HRG.out).2
                        (try simp only [Exit.inBlock, Exit.then])
                        refine bodyPost_ret (results_cell_tmp rfl _ _ w.heap.size 30 _ (0, 0) _ rfl HO.out.2.2 Try.underlying30 rfl HSZ.out) rfl ?_
                        refine ⟨zeroLie, ?_, HO.out.1, ?_⟩
                        · rw [HE.out.1, HE.out.2, HZ.out]; rfl
                        · rw [HE.out.1]; exact ⟨HO.out.2.1, zero_from _⟩
      · have hck2 : ((n : Int) - (at_ : Int) == 256 + (st : Int) + (pp : Int)) = false := by rw [beq_eq_false_iff_ne]; omega
        have hrb : readB l = false := by
          rw [← Bool.not_eq_true]
          intro h
          have hr := HREF.out h
          have e1 := hr.tail.2
          have e2 := (HYES.out h).2
          have e3 := hr.right.len
          have e4 := hr.states
          have e5 := hr.many
          have e6 := HMN.out
          have e7 := HST.out
          rw [HN.out] at e1
          rw [HB4.out, HB5.out] at e4
          rw [HB3.out, e6] at e5
          rw [← e5] at e3
          have e8 : T.tags.length = st := by omega
          rw [e8] at e3 e1
          have e9 : T.next.length = st * mn := by
            have : ((st * mn : Nat) : Int) = (st : Int) * (mn : Int) := by simp
            omega
          have e10 : pp = 2 * (st * mn) := by rw [← HPP.out, Nat.mul_assoc]
          rw [e9] at e1
          omega
        have HE := Lib.hid (HFIN.out hrb)
        have e9 := (HNO.out _ _ _ HN1.out.rf).1
        clear hrb
        go_wp2
        have HO := Lib.hid (HNO.out _ _ _ HN1.out.rf).2
        (try simp only [Exit.inBlock, Exit.then])
        refine bodyPost_ret (results_cell_tmp rfl _ _ w.heap.size 30 _ (0, 0) _ rfl HO.out.2.2 Try.underlying30 rfl HSZ.out) rfl ?_
        refine ⟨zeroLie, ?_, HO.out.1, ?_⟩
        · rw [HE.out.1, HE.out.2, HZ.out]; rfl
        · rw [HE.out.1]; exact ⟨HO.out.2.1, zero_from _⟩
end Go.Proofs.Ytkgfjapflpjdbaa
