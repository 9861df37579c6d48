/-
  The contract of nfa.Run. Conditions: the machine's states lie in memory, its words are words; at most 100000 bytes; the library's table.
-/
import Derived.Test.YtdckjjkaoecgaaaDoorNwR
import Derived.Test.YtdckjjkaoecgaaaDoorNwF
import Derived.Test.YtdckjjkaoecgaaaDoorNwG
import Derived.Deep.DeepCutAuto
namespace Go.Proofs.YtdckjjkaoecgaaaDoor
open Go.RowKit Go.Shelf

/-- what a right machine is -/
theorem right_facts {start : Int} {st : List NS} (h : nRightB start st = true) : st.length ≤ 20000 ∧ 0 ≤ start ∧ start < st.length ∧ WaysOk st ∧ ∀ s ∈ st, s.kind = 0 → 0 ≤ s.tag := by
  unfold nRightB belowP at h
  simp only [Bool.and_eq_true, decide_eq_true_eq, List.all_eq_true] at h
  obtain ⟨h1, ⟨h2, h3⟩, h4⟩ := h
  have key : ∀ s ∈ st, (s.kind = 1 → 0 ≤ s.a ∧ s.a < st.length) ∧ (s.kind = 2 → 0 ≤ s.a ∧ s.a < st.length ∧ 0 ≤ s.b ∧ s.b < st.length) ∧ (s.kind = 0 → 0 ≤ s.tag) := fun s hs => by
    have h5 := h4 s hs
    refine ⟨fun hk => ?_, fun hk => ?_, fun hk => ?_⟩
    · unfold rightN belowP at h5
      rw [if_neg (by omega), if_pos hk] at h5
      simp only [Bool.and_eq_true, decide_eq_true_eq] at h5
      exact h5.2.2
    · unfold rightN belowP at h5
      rw [if_neg (by omega), if_neg (by omega), if_pos hk] at h5
      simp only [Bool.and_eq_true, decide_eq_true_eq] at h5
      exact ⟨h5.2.1.1, h5.2.1.2, h5.2.2.1, h5.2.2.2⟩
    · unfold rightN belowP at h5
      rw [if_pos hk] at h5
      simp only [Bool.and_eq_true, decide_eq_true_eq] at h5
      exact h5.2.1
  exact ⟨h1, h2, h3, fun s hs => ⟨(key s hs).1, (key s hs).2.1⟩, fun s hs => (key s hs).2.2⟩
def tV (z : Int) : Value := .int .i64 z
theorem make_nums (W : World) (n : Nat) (hn : n ≤ 10000000) : ∃ wm, (Instr.makeSlice 35 (.int .i64 (n : Int)) (.int .i64 (n : Int))).run Tryd.prog W = .ok (.slice (some ⟨W.heap.size, 0, none⟩) n n) wm ∧ Blk wm W.heap.size 3 ((List.replicate n (0 : Int)).map tV).toArray ∧ Below W.heap.size W wm := by
  obtain ⟨i0, hi, hz0, hz1, hz2⟩ := info_parts infoNt
  obtain ⟨wm, h1, h2, h3⟩ := run_make_full (P := Tryd.prog) W W.heap.size 35 3 i0 (.int .i64 0) 1 Tryd.underlying35 hi hz0 hz1 .i64 .i64 n (by rw [hz2]; omega) (by unfold maxLen; omega) (Nat.le_refl _)
  refine ⟨wm, h1, ?_, (Below.refl _ _).grown h3 (Nat.le_refl _) (fun k hk => by cases hk)⟩
  rcases h2.2 with ⟨e, _⟩ | ⟨g, cap, cur, e, _, hh, _, _, hcs, ht⟩
  · cases e
  · simp only [Value.slice.injEq, Option.some.injEq, Addr.mk.injEq, and_true, true_and] at e
    obtain ⟨rfl, rfl⟩ := e
    have hcur : cur = ((List.replicate n (0 : Int)).map tV).toArray := by
      apply Array.toList_inj.1
      rw [List.take_of_length_le (by rw [Array.length_toList, hcs]; exact Nat.le_refl _)] at ht
      rw [ht, Nat.mul_one, show (Value.int .i64 0).cells = #[.int .i64 0] from rfl, toList_madeCells_one, List.map_replicate]
      rfl
    rw [← hcur]
    exact hh
theorem NsIn.mono {W : World} {B B' : Nat} {a : Option Addr} {st : List NS} (h : NsIn W B a st) (hb : B ≤ B') : NsIn W B' a st := fun k s hk => by
  obtain ⟨g, off, e1, e2, e3⟩ := h k s hk
  exact ⟨g, off, e1, Nat.lt_of_lt_of_le e2 hb, e3⟩
theorem stand_in {st : List NS} {p : Nat} (h : WaysOk st) (hp : p < st.length) : ∀ (l : List UInt8) (q : Nat), StandS st (Reach st p) l q → q < st.length := by
  have key : ∀ (l : List UInt8) (S : Nat → Prop), (∀ q, S q → q < st.length) → ∀ q, StandS st S l q → q < st.length := by
    intro l
    induction l with
    | nil => intro S hS q hq; exact hS q hq
    | cons x r ih =>
      intro S hS q hq
      refine ih _ ?_ q hq
      rintro q2 ⟨p2, s, h1, h2, h3, _, h5⟩
      have := ((h s (List.mem_of_getElem? h2)).1 h3)
      exact h.reach h5 (by omega)
  exact fun l q hq => key l _ (fun q2 h2 => h.reach h2 hp) q hq
/-- running -/
structure RunI (w : World) (B tg b : Nat) (sa : Option Addr) (sn sc h x m p : Nat) (st : List NS) (l : List UInt8) (ts : List Int) (k kk : Nat) (W : World) : Prop where
  tags : Blk W tg 3 (ts.map tV).toArray
  len : ts.length = l.length + 1
  walk : ∃ av ws wn, Wk W B b sa sn sc h x m av ws wn ∧ OwnX W B tg av [] ∧ (WordsOk ws ∧ ws.length = m) ∧ (WordsOk wn ∧ wn.length = m) ∧ ∀ q, bitAt ws q = true ↔ StandS st (Reach st p) (l.take k) q
  low : Below w.heap.size w W
  base : B ≤ W.heap.size ∧ w.heap.size ≤ B ∧ w.heap.size ≤ tg
  told : ∀ i, i < kk → TagOf st (StandS st (Reach st p) (l.take i)) (ts.getD i 0)
/-- what is known of the machine all along -/
structure RunH (w : World) (B : Nat) (sa : Option Addr) (sn m p : Nat) (st : List NS) : Prop where
  ns : NsIn w w.heap.size sa st
  fit : NsFit st
  ways : WaysOk st
  tags : ∀ s ∈ st, s.kind = 0 → 0 ≤ s.tag
  tz : TzAt w
  tb : 0 < w.heap.size
  len : st.length = sn
  num : p < sn ∧ sn ≤ 20000 ∧ m ≤ 400 ∧ 0 < m ∧ sn ≤ 64 * m
  base : w.heap.size ≤ B
theorem RunI.tag {w : World} {B tg b : Nat} {sa : Option Addr} {sn sc h x m p : Nat} {st : List NS} {l : List UInt8} {ts : List Int} {k kk : Nat} {W : World} (r : RunI w B tg b sa sn sc h x m p st l ts k kk W) (H : RunH w B sa sn m p st) :
    Calls Tryd.prog 36 #[.pointer (some ⟨b, 0, none⟩)] W fun e w' => ∃ t : Int, e = .returned (.int .i64 t) ∧ TagOf st (StandS st (Reach st p) (l.take k)) t ∧ Below W.heap.size W w' := by
  obtain ⟨av, ws, wn, h1, h2, h3, h4, h5⟩ := r.walk
  refine (wtag_any B b sa sc h x m av ws wn st sn H.len W h1 r.base.1 ((H.ns.below r.low).mono H.base) h3.1 h3.2 H.num.2.2.1 (fun q hq => by rw [← H.len]; exact stand_in H.ways (by rw [H.len]; exact H.num.1) _ q ((h5 q).1 hq)) H.tags (H.tz.below H.tb r.low) (Nat.lt_of_lt_of_le H.tb r.low.size)).mono ?_
  rintro e w' ⟨t, rfl, ht, hl⟩
  exact ⟨t, rfl, ht.congr (fun q _ => h5 q), hl⟩
theorem RunI.later {w : World} {B tg b : Nat} {sa : Option Addr} {sn sc h x m p : Nat} {st : List NS} {l : List UInt8} {ts : List Int} {k kk : Nat} {W W' : World} (r : RunI w B tg b sa sn sc h x m p st l ts k kk W) (hl : Below W.heap.size W W') : RunI w B tg b sa sn sc h x m p st l ts k kk W' := by
  obtain ⟨av, ws, wn, h1, h2, h3, h4, h5⟩ := r.walk
  exact ⟨r.tags.below hl r.tags.lt, r.len, ⟨av, ws, wn, h1.keep (fun _ _ _ hb _ => hb.below hl hb.lt), h2.later hl, h3, h4, h5⟩, r.low.trans (hl.mono r.low.size), ⟨Nat.le_trans r.base.1 hl.size, r.base.2⟩, r.told⟩
theorem RunI.put {w : World} {B tg b : Nat} {sa : Option Addr} {sn sc h x m p : Nat} {st : List NS} {l : List UInt8} {ts : List Int} {k : Nat} {W : World} (r : RunI w B tg b sa sn sc h x m p st l ts k k W) (hk : k ≤ l.length) {t : Int} (ht : TagOf st (StandS st (Reach st p) (l.take k)) t) : RunI w B tg b sa sn sc h x m p st l (ts.set k t) k (k + 1) (W.setCell ⟨tg, k, none⟩ (.int .i64 t)) := by
  obtain ⟨av, ws, wn, h1, h2, h3, h4, h5⟩ := r.walk
  have hsz : (W.setCell ⟨tg, k, none⟩ (.int .i64 t)).heap.size = W.heap.size := World.size_setCell _ _ _
  refine ⟨?_, by rw [List.length_set]; exact r.len, ⟨av, ws, wn, ⟨h1.blk.other (p := ⟨tg, k, none⟩) (blk_ne h1.blk r.tags (by decide)) _, h1.here.other (p := ⟨tg, k, none⟩) (blk_ne h1.here r.tags (by decide)) _, h1.next.other (p := ⟨tg, k, none⟩) (blk_ne h1.next r.tags (by decide)) _, h1.apart, h1.ge⟩, ⟨?_, h2.ne, by rw [hsz]; exact h2.lt⟩, h3, h4, h5⟩, r.low.setCell (p := ⟨tg, k, none⟩) r.base.2.2 _, by rw [hsz]; exact r.base, fun i hi => ?_⟩
  · have h6 := r.tags.set_ k (.int .i64 t)
    rw [List.setIfInBounds_toArray] at h6
    rw [List.map_set]
    exact h6
  · refine ⟨h2.own.1, ?_⟩
    rcases h2.own.2 with h6 | ⟨g, c, cur, e1, hg, hh, hr⟩
    · exact .inl h6
    · exact .inr ⟨g, c, cur, e1, hg, Blk.other hh (p := ⟨tg, k, none⟩) (fun e => h2.ne (by rw [e1, e]; rfl)) _, hr⟩
  · rw [List.getD_eq_getElem?_getD]
    by_cases e : i = k
    · subst e
      rw [List.getElem?_set_self (by have := r.len; omega)]
      exact ht
    · rw [List.getElem?_set_ne (by omega), ← List.getD_eq_getElem?_getD]
      exact r.told i (by omega)
theorem RunI.read {w : World} {B tg b : Nat} {sa : Option Addr} {sn sc h x m p : Nat} {st : List NS} {l : List UInt8} {ts : List Int} {k kk : Nat} {W : World} (r : RunI w B tg b sa sn sc h x m p st l ts k kk W) (H : RunH w B sa sn m p st) (hk : k < l.length) :
    Calls Tryd.prog 37 #[.pointer (some ⟨b, 0, none⟩), .int .u8 (l[k].toNat : Int)] W fun e w' => (∃ v, e = .returned v) ∧ RunI w B tg b sa sn sc h x m p st l ts (k + 1) kk w' := by
  obtain ⟨av, ws, wn, h1, h2, h3, h4, h5⟩ := r.walk
  refine (wread_any B tg b sa sc h x m av ws wn st sn H.len W h1 h2 r.base.1 ((H.ns.below r.low).mono H.base) H.ways H.fit h3.1 h3.2 h4.2 H.num.2.2.1 H.num.2.2.2.1 H.num.2.2.2.2 (fun q hq => by rw [← H.len]; exact stand_in H.ways (by rw [H.len]; exact H.num.1) _ q ((h5 q).1 hq)) (H.tz.below H.tb r.low) (Nat.lt_of_lt_of_le H.tb H.base) l[k].toNat l[k].toNat_lt).mono ?_
  rintro e w' ⟨hv, ha⟩
  obtain ⟨av', ws', wn', k1, k2, k3, k4, k5⟩ := ha.walk
  refine ⟨hv, ha.keep.2 _ _ _ r.tags (by decide) (by decide) (.inr rfl), r.len, ⟨av', ws', wn', k1, k2, k3, k4, fun q => ?_⟩, r.low.trans (ha.low.mono H.base), ⟨Nat.le_trans r.base.1 ha.low.size, r.base.2⟩, r.told⟩
  rw [List.take_succ_eq_append_getElem hk, stand_snoc]
  exact (k5 q).trans (stepS_congr h5 _ q)
theorem RunI.cell {w : World} {B tg b : Nat} {sa : Option Addr} {sn sc h x m p : Nat} {st : List NS} {l : List UInt8} {ts : List Int} {k kk : Nat} {W : World} (r : RunI w B tg b sa sn sc h x m p st l ts k kk W) {j : Nat} (hj : j ≤ l.length) : W.cell? ⟨tg, j, none⟩ = some (.int .i64 (ts.getD j 0)) ∧ W.frozen? ⟨tg, j, none⟩ = false := by
  refine ⟨?_, r.tags.frozen j⟩
  have hl : j < ts.length := by have := r.len; omega
  rw [r.tags.cell j, List.getElem?_toArray, List.getElem?_map, List.getElem?_eq_getElem hl, List.getD_eq_getElem?_getD, List.getElem?_eq_getElem hl]
  rfl
theorem run_no {start : Int} {sa : Option Addr} {sc : Nat} {st : List NS} {sn : Nat} (hsn : st.length = sn) (hsl : sn ≤ 281474976710656) (w : World) (hns : NsIn w w.heap.size sa st) (hr : nRightB start st = false) (s : ByteArray) :
    Calls Tryd.prog 15 #[.agg #[.int .i64 start, .slice sa sn sc], .string s] w fun e w' => e = .returned (.tuple #[.slice none 0 0, .int .i64 2]) ∧ Below w.heap.size w w' := by
  have HL1 : Hid (Below w.heap.size w (w.alloc (.cells #[.int .i64 start, .slice sa sn sc] 25))) := (Below.refl _ _).alloc (Nat.le_refl _) _
  have HR := Lib.hid (nRight_any start sa sc st sn w.heap.size hsn hsl (w.alloc (.cells #[.int .i64 start, .slice sa sn sc] 25)) HL1.out.size (hns.below HL1.out))
  rw [hr] at HR
  clear hns hsn
  go_enter Tryd.func15, Tryd.ntmps15
  go_wp2_with (go_at_call 17; refine HR.out.mono ?_; rintro e w5 ⟨rfl, hb5⟩; have HL5 := Lib.hid (HL1.out.trans (hb5.mono HL1.out.size)); clear hb5)
  go_ret2
  exact ⟨rfl, HL5.out⟩
set_option maxRecDepth 100000 in
set_option maxHeartbeats 8000000 in
theorem run_yes {start : Int} {sa : Option Addr} {sc : Nat} {st : List NS} {sn : Nat} (hsn : st.length = sn) (w : World) (hns : NsIn w w.heap.size sa st) (hfit : NsFit st) (hr : nRightB start st = true) (s : ByteArray) (hs : s.size ≤ 1000000) (hT : TzAt w) (htb : 0 < w.heap.size) :
    Calls Tryd.prog 15 #[.agg #[.int .i64 start, .slice sa sn sc], .string s] w fun e w' => ∃ (g : Nat) (ts : List Int), e = .returned (.tuple #[.slice (some ⟨g, 0, none⟩) (s.size + 1) (s.size + 1), .int .i64 0]) ∧ ts.length = s.size + 1 ∧ Blk w' g 3 (ts.map tV).toArray ∧ w.heap.size ≤ g ∧ Below w.heap.size w w' ∧ ∀ i, i ≤ s.size → TagOf st (StandS st (Reach st start.toNat) (s.data.toList.take i)) (ts.getD i 0) := by
  obtain ⟨hsl, h0, h1, hways, htags⟩ := right_facts hr
  obtain ⟨p, hp⟩ : ∃ p : Nat, start = (p : Int) := ⟨start.toNat, by omega⟩
  subst hp
  rw [Int.toNat_natCast]
  rw [hsn] at hsl h1
  obtain ⟨m, hm⟩ : ∃ m, m = (sn + 63) / 64 := ⟨_, rfl⟩
  have HL1 : Hid (Below w.heap.size w (w.alloc (.cells #[.int .i64 (p : Int), .slice sa sn sc] 25))) := (Below.refl _ _).alloc (Nat.le_refl _) _
  have HB1 := Lib.hid (Blk.new w 25 #[.int .i64 (p : Int), .slice sa sn sc])
  have HSZ1 : Hid ((w.alloc (.cells #[.int .i64 (p : Int), .slice sa sn sc] 25)).heap.size = w.heap.size + 1) := World.size_alloc _ _
  have HR := Lib.hid (nRight_any (p : Int) sa sc st sn w.heap.size hsn (by omega) (w.alloc (.cells #[.int .i64 (p : Int), .slice sa sn sc] 25)) HL1.out.size (hns.below HL1.out))
  rw [hr] at HR
  have HNS := Lib.hid hns
  have HFIT := Lib.hid hfit
  have HW := Lib.hid hways
  have HTG := Lib.hid htags
  have HT := Lib.hid hT
  have HTB : Hid (0 < w.heap.size) := htb
  have HSN := Lib.hid hsn
  have HM := Lib.hid hm
  have HPS : Hid (p < sn ∧ sn ≤ 20000 ∧ m ≤ 400 ∧ 0 < m ∧ sn ≤ 64 * m) := ⟨by omega, hsl, by omega, by omega, by omega⟩
  obtain ⟨l, hl⟩ : ∃ l, l = s.data.toList := ⟨_, rfl⟩
  have hln : l.length = s.size := by rw [hl, Array.length_toList]; rfl
  have HLN := Lib.hid hln
  have HLL := Lib.hid hl
  rw [← hl]
  obtain ⟨n, hn⟩ : ∃ n, n = s.size := ⟨_, rfl⟩
  have HN := Lib.hid hn
  clear hns hfit hways htags hT htb hsn hm hr hl hln h0 h1 hsl
  go_enter Tryd.func15, Tryd.ntmps15
  go_upto_region 3 with (go_at_call 17; refine HR.out.mono ?_; rintro e w5 ⟨rfl, hb5⟩; have HL5 := Lib.hid (HL1.out.trans (hb5.mono HL1.out.size)); have HB5 := Lib.hid (HB1.out.below hb5 (by rw [HSZ1.out]; omega)); clear hb5)
  have r0 := HB5.out.cell 0
  have r1 := HB5.out.cell 1
  simp at r0 r1
  have HBG := Lib.hid (begun_any 0 sa sc st sn m p HSN.out HM.out HPS.out.2.1 HPS.out.1 w5 ((HNS.out.below HL5.out).mono HL5.out.size) HW.out (Nat.lt_of_lt_of_le HTB.out HL5.out.size))
  clear HR HB1 HSZ1
  go_upto_region 4 with (go_at_call 35; refine HBG.out.mono ?_; rintro e w6 ⟨b, h, x, rfl, hat⟩; have HA6 := Lib.hid hat; clear hat HBG)
  obtain ⟨av6, ws6, wn6, k1, k2, k3, k4, k5⟩ := HA6.out.walk
  obtain ⟨w7, hmk, hb7, hl7⟩ := make_nums w6 (s.size + 1) (by omega)
  have HL6 : Hid (Below w.heap.size w w6) := HL5.out.trans (HA6.out.low.mono HL5.out.size)
  have hs65 := HA6.out.low.size
  have HRI : Hid (RunI w w5.heap.size w6.heap.size b sa sn sc h x m p st l (List.replicate (s.size + 1) 0) 0 0 w7) := by
    refine ⟨hb7, by rw [List.length_replicate, HLN.out], ⟨av6, ws6, wn6, k1.keep (fun _ _ _ hb _ => hb.below hl7 hb.lt), ⟨ownsRow_kept k2.own hl7, fun e => ?_, by have := hb7.lt; omega⟩, k3, k4, k5⟩, HL6.out.trans (hl7.mono (Nat.le_trans HL5.out.size hs65)), ⟨Nat.le_trans hs65 hl7.size, HL5.out.size, Nat.le_trans HL5.out.size hs65⟩, fun i hi => absurd hi (Nat.not_lt_zero _)⟩
    have := (k2.own.lt _ e).2
    omega
  have HH : Hid (RunH w w5.heap.size sa sn m p st) := ⟨HNS.out, HFIT.out, HW.out, HTG.out, HT.out, HTB.out, HSN.out, HPS.out, HL5.out.size⟩
  clear k1 k2 k3 k4 k5 hb7 hl7 hs65 HL6 HA6 HB5 HL5 HNS HFIT HW HTG HT HTB HSN HM HPS r0 r1 HL1
  have HTA := Lib.hid (HRI.out.tag HH.out)
  have HS : Hid (s.size ≤ 1000000) := hs
  obtain ⟨tg, htg⟩ : ∃ tg, tg = w6.heap.size := ⟨_, rfl⟩
  rw [← htg] at hmk HRI
  rw [show ((s.size + 1 : Nat) : Int) = (s.size : Int) + 1 from by push_cast; rfl] at hmk
  clear htg hn
  go_upto_region 5 with (fail)
  clear hmk
  have hz1 : (0 : Int) < ((s.size + 1 : Nat) : Int) := by omega
  have hz2 : (0 : Int) < (s.size : Int) + 1 := by omega
  go_wp2_with (go_at_call 36; refine HTA.out.mono ?_; rintro e w8 ⟨t, rfl, ht, hl8⟩; have HT8 := Lib.hid ht; have HR8 := Lib.hid (HRI.out.later hl8); obtain ⟨c0, f0⟩ := HR8.out.cell (Nat.zero_le _); clear ht hl8 HTA)
  have HR9 := Lib.hid (HR8.out.put (Nat.zero_le _) HT8.out)
  clear HR8 HT8 c0 f0 HRI hz1 hz2
  go_loopw [24] (fun i wr => ∃ (k : Nat) (ts : List Int), k ≤ s.size ∧ i = .int .i64 (k : Int) ∧ Hid (RunI w w5.heap.size tg b sa sn sc h x m p st l ts k (k + 1) wr)) (fun i _ => s.size - (intOf i).toNat)
  case atStart => exact ⟨0, _, Nat.zero_le _, rfl, HR9⟩
  case round =>
    clear HR9
    obtain ⟨k, ts, hk, rfl, HI⟩ := hrel
    by_cases hlt : k < s.size
    · have hk0 : (0 : Int) ≤ (k : Int) := by omega
      have hkl : (k : Int) < (s.size : Int) := by omega
      have hkl2 : k < l.length := by rw [HLN.out]; exact hlt
      have HRD := Lib.hid (HI.out.read HH.out hkl2)
      have hlk : l[k] = s[k] := by
        have h1 := HLL.out
        subst h1
        rfl
      rw [hlk] at HRD
      have hb1 : (k : Int) + 1 < (s.size : Int) + 1 := by omega
      have hb2 : (0 : Int) ≤ (k : Int) + 1 := by omega
      clear hlk
      go_wp2_with (first
        | (go_at_call 37; refine HRD.out.mono ?_; rintro e w9 ⟨⟨v9, rfl⟩, hr9⟩; have HR9 := Lib.hid hr9; have HTA9 := Lib.hid (hr9.tag HH.out); clear hr9)
        | (go_at_call 36; refine HTA9.out.mono ?_; rintro e w10 ⟨t, rfl, ht, hl10⟩; have HT10 := Lib.hid ht; have HR10 := Lib.hid (HR9.out.later hl10); obtain ⟨c10, f10⟩ := HR10.out.cell hkl2; clear ht hl10))
      exact ⟨⟨k + 1, _, hlt, by push_cast; rfl, Lib.hid (HR10.out.put hkl2 HT10.out)⟩, by simp [intOf]; omega⟩
    · obtain rfl : k = s.size := by omega
      go_wp2_with (fail)
      go_ret2
      exact ⟨tg, ts, rfl, by rw [HI.out.len, HLN.out], HI.out.tags, HI.out.base.2.2, HI.out.low, fun i hi => HI.out.told i (by omega)⟩
end Go.Proofs.YtdckjjkaoecgaaaDoor
