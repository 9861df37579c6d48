/-
  The contract of (*nfa.walk).read: where a machine stands behind one byte more. Conditions: a right machine below the base; places that are marked are states; the library's table.
-/
import Derived.Test.YtdckjjkaoecgaaaDoorNwE
import Derived.Test.YtdckjjkaoecgaaaDoorNbV
import Derived.RangeFuncBox
import Derived.RangeFuncLeaves
import Derived.RangeFuncNested
import Derived.RangeFuncBound
import Derived.Shelf.RegionOpen
import Derived.OwnWalkIn
import Derived.TacticsInMore
namespace Go.Proofs.YtdckjjkaoecgaaaDoor
open Go.RowKit Go.Shelf

attribute [local go_sem] Oper.semAt_some
theorem yielded_undef' : yielded.match_1 (fun _ => Option Bool) (some undef) (fun b => some b) (fun _ => none) = none := rfl
attribute [local go_sem] yielded_undef'
attribute [local go_sem ↓] copyMk_eq clearMk_eq

/-- what is come to by the places that were told -/
def StepL (st : List NS) (pre : List Nat) (c : Nat) (q : Nat) : Prop := StepS st (· ∈ pre) c q
theorem stepL_none {st : List NS} {pre : List Nat} {c p : Nat} {s : NS} (hs : st[p]? = some s) (h : ¬ (s.kind = 1 ∧ inNs s c = true)) (q : Nat) : StepL st (pre ++ [p]) c q ↔ StepL st pre c q := by
  constructor
  · rintro ⟨r, t, h1, h2, h3, h4, h5⟩
    rcases List.mem_append.1 h1 with h1 | h1
    · exact ⟨r, t, h1, h2, h3, h4, h5⟩
    · obtain rfl := List.mem_singleton.1 h1
      rw [hs] at h2
      injection h2 with h2
      subst h2
      exact absurd ⟨h3, h4⟩ h
  · rintro ⟨r, t, h1, h2, h3, h4, h5⟩
    exact ⟨r, t, List.mem_append_left _ h1, h2, h3, h4, h5⟩
theorem stepL_one {st : List NS} {pre : List Nat} {c p : Nat} {s : NS} (hs : st[p]? = some s) (h1 : s.kind = 1) (h2 : inNs s c = true) (q : Nat) : StepL st (pre ++ [p]) c q ↔ StepL st pre c q ∨ Reach st s.a.toNat q := by
  constructor
  · rintro ⟨r, t, k1, k2, k3, k4, k5⟩
    rcases List.mem_append.1 k1 with k1 | k1
    · exact .inl ⟨r, t, k1, k2, k3, k4, k5⟩
    · obtain rfl := List.mem_singleton.1 k1
      rw [hs] at k2
      injection k2 with k2
      subst k2
      exact .inr k5
  · rintro (⟨r, t, k1, k2, k3, k4, k5⟩ | k)
    · exact ⟨r, t, List.mem_append_left _ k1, k2, k3, k4, k5⟩
    · exact ⟨p, s, by simp, hs, h1, h2, k⟩
theorem stepS_congr {st : List NS} {S T : Nat → Prop} (h : ∀ p, S p ↔ T p) (c q : Nat) : StepS st S c q ↔ StepS st T c q :=
  ⟨fun ⟨r, t, h1, h2⟩ => ⟨r, t, (h r).1 h1, h2⟩, fun ⟨r, t, h1, h2⟩ => ⟨r, t, (h r).2 h1, h2⟩⟩
/-- numbers within their words -/
def NsFit (st : List NS) : Prop := ∀ s ∈ st, s.s0 < 18446744073709551616 ∧ s.s1 < 18446744073709551616 ∧ s.s2 < 18446744073709551616 ∧ s.s3 < 18446744073709551616
theorem keepX_here {B h t : Nat} {W W' : World} {ty : TypeId} {cs : Array Value} (hb : Blk W h ty cs) (hb' : Blk W' h ty cs) (hl : Below B W W') (ht : t < B) : KeepX (fun j => j ≠ h ∧ j ≠ t) W W' := by
  refine ⟨hl.size, fun k us u fr hx hk => ?_⟩
  by_cases e1 : k = h
  · subst e1
    exact (show W'.heap[k]? = _ from hb').trans ((show W.heap[k]? = _ from hb).symm.trans hk)
  · by_cases e2 : k = t
    · subst e2
      exact (hl.block k ht).trans hk
    · exact absurd ⟨e1, e2⟩ hx
/-- under way in a round: what is marked, and the boxes -/
structure RdI (B tg b bw : Nat) (sa : Option Addr) (sn sc h x m c : Nat) (ws : List Nat) (st : List NS) (w : World) (pre : List Nat) (W : World) : Prop where
  walk : ∃ av wn, Wk W B b sa sn sc h x m av ws wn ∧ OwnX W B tg av [] ∧ (WordsOk wn ∧ wn.length = m) ∧ ∀ q, bitAt wn q = true ↔ StepL st pre c q
  box : Blk W bw 69 #[.pointer (some ⟨b, 0, none⟩)]
  byte : Blk W (bw + 1) 5 #[.int .u8 (c : Int)]
  low : Below B w W
  keep : KeepW tg w W
theorem RdI.later {B tg b bw : Nat} {sa : Option Addr} {sn sc h x m c : Nat} {ws : List Nat} {st : List NS} {w W W' : World} {pre pre' : List Nat} (k : RdI B tg b bw sa sn sc h x m c ws st w pre W) (hl : Below W.heap.size W W') (hB : B ≤ W.heap.size) (hp : ∀ q, StepL st pre' c q ↔ StepL st pre c q) : RdI B tg b bw sa sn sc h x m c ws st w pre' W' := by
  obtain ⟨av, wn, h1, h2, h3, h4⟩ := k.walk
  exact ⟨⟨av, wn, h1.keep (fun _ _ _ hb _ => hb.below hl hb.lt), h2.later hl, h3, fun q => (h4 q).trans (hp q).symm⟩, k.box.below hl k.box.lt, k.byte.below hl k.byte.lt, k.low.trans (hl.mono hB), k.keep.trans (KeepW.of_below hl)⟩
theorem RdI.beside {B tg b bw : Nat} {sa : Option Addr} {sn sc h x m c : Nat} {ws : List Nat} {st : List NS} {w W W' : World} {pre : List Nat} {row : Option Nat} (k : RdI B tg b bw sa sn sc h x m c ws st w pre W) (hg : W.grownBy W' row) (hB : B ≤ W.heap.size) (hr : ∀ r, row = some r → w.heap.size ≤ r ∧ ∃ o : Obj, W.heap[r]? = some o ∧ o.isCells = false) (hBw : B ≤ w.heap.size) : RdI B tg b bw sa sn sc h x m c ws st w pre W' := by
  have hr2 := fun r e => (hr r e).2
  obtain ⟨av, wn, h1, h2, h3, h4⟩ := k.walk
  refine ⟨⟨av, wn, h1.keep (fun _ _ _ hb _ => blk_beside hb hg hr2), ⟨own_beside h2.own hg hr2, h2.ne, Nat.lt_of_lt_of_le h2.lt hg.size⟩, h3, h4⟩, blk_beside k.box hg hr2, blk_beside k.byte hg hr2, k.low.grown hg hB (fun r e => Nat.le_trans hBw (hr r e).1), ⟨Nat.le_trans k.keep.1.size hg.size, fun j o hj ho => ?_⟩, fun g t cs hb k1 k2 k3 => blk_beside (k.keep.2 g t cs hb k1 k2 k3) hg hr2⟩
  have h5 := k.keep.1.same j o hj ho
  refine (hg.block j (Array.getElem?_eq_some_iff.1 h5).1 (fun e => ?_)).trans h5
  have h6 := (hr j e.symm).1
  have h7 := (Array.getElem?_eq_some_iff.1 hj).1
  omega
set_option maxRecDepth 100000 in
set_option maxHeartbeats 8000000 in
theorem wread_any (B tg b : Nat) (sa : Option Addr) (sc h x m : Nat) (av : Value) (ws wn : List Nat) (st : List NS) (sn : Nat) (hsn : st.length = sn) (w : World) (hk : Wk w B b sa sn sc h x m av ws wn) (hav : OwnX w B tg av []) (hB : B ≤ w.heap.size) (hns : NsIn w B sa st) (hw : WaysOk st) (hfit : NsFit st) (hwo : WordsOk ws) (hwl : ws.length = m) (hwn : wn.length = m) (hm : m ≤ 400) (hm0 : 0 < m) (hnm : sn ≤ 64 * m) (hin : ∀ p, bitAt ws p = true → p < sn) (hT : TzAt w) (htb : 0 < B) (c : Nat) (hc : c < 256) :
    Calls Tryd.prog 37 #[.pointer (some ⟨b, 0, none⟩), .int .u8 (c : Int)] w fun e w' => (∃ v, e = .returned v) ∧ At B tg b sa sn sc h x m st (StepS st (fun p => bitAt ws p = true) c) w w' := by
  have HNS := Lib.hid hns
  have HW := Lib.hid hw
  have HFIT := Lib.hid hfit
  have HIN := Lib.hid hin
  have HSN := Lib.hid hsn
  have HWO : Hid (WordsOk ws ∧ ws.length = m) := ⟨hwo, hwl⟩
  have HB := Lib.hid hB
  obtain ⟨W1, hW1⟩ : ∃ W1, W1 = (w.alloc (.cells #[.pointer (some ⟨b, 0, none⟩)] 69)).alloc (.cells #[.int .u8 (c : Int)] 5) := ⟨_, rfl⟩
  have HL1 : Hid (Below w.heap.size w W1) := by rw [hW1]; exact ((Below.refl _ _).alloc (Nat.le_refl _) _).alloc (by simp) _
  have HK1 : Hid (Wk W1 B b sa sn sc h x m av ws wn) := by rw [hW1]; exact (hk.alloc _).alloc _
  have HBW : Hid (Blk W1 w.heap.size 69 #[.pointer (some ⟨b, 0, none⟩)]) := by rw [hW1]; exact (Blk.new _ _ _).alloc _
  have HBC : Hid (Blk W1 (w.heap.size + 1) 5 #[.int .u8 (c : Int)]) := by rw [hW1]; exact Blk.new_at _ _ _ _ (by simp)
  have HA1 : Hid (OwnX W1 B tg av []) := by rw [hW1]; exact (hav.alloc _).alloc _
  have b2 := HK1.out.blk.cell 2
  have b0 := HBW.out.cell 0
  simp at b2 b0
  have hclr := fun ty => clear_words ty W1 x m wn HK1.out.next hwn hm0
  clear hns hw hfit hin hsn hwo hwl hwn hk hav hB
  refine (callsIn_wide (n := 6)).1 ?_
  refine callsIn_of_wp_marks Tryd.func37 rfl trivial ?_ rfl
  simp only [Tryd.ntmps37, List.size_toArray, List.length_cons, List.length_nil, Nat.reduceAdd, Nat.reduceSub, Array.replicate_succ, Array.replicate_zero, List.push_toArray, List.append_toArray, List.nil_append, List.cons_append]
  obtain ⟨W3, hW3⟩ : ∃ W3, W3 = W1.setRow x (wordsV (List.replicate m 0)) := ⟨_, rfl⟩
  have HS3 : Hid (W3.heap.size = w.heap.size + 2) := by rw [hW3, size_setRow, hW1]; show _ = _; simp
  have HK3 : Hid (Wk W3 B b sa sn sc h x m av ws (List.replicate m 0)) := by rw [hW3]; exact HK1.out.cleared m
  have HBW3 : Hid (Blk W3 w.heap.size 69 #[.pointer (some ⟨b, 0, none⟩)]) := by rw [hW3]; exact setRow_ne HBW.out (blk_ne HBW.out HK1.out.next (by decide)) _
  have HBC3 : Hid (Blk W3 (w.heap.size + 1) 5 #[.int .u8 (c : Int)]) := by rw [hW3]; exact setRow_ne HBC.out (blk_ne HBC.out HK1.out.next (by decide)) _
  have HA3 : Hid (OwnX W3 B tg av []) := by rw [hW3]; exact ⟨own_row_other HA1.out.own HK1.out.next (by decide) _, HA1.out.ne, by rw [size_setRow]; exact HA1.out.lt⟩
  have HL3 : Hid (Below B w W3) := by rw [hW3]; exact below_setRow (HL1.out.mono HB.out) HK1.out.ge.2.2 _
  have HKW3 : Hid (KeepW tg w W3) := by rw [hW3]; exact keepW_row (KeepW.of_below HL1.out) HK1.out.next _
  have e0 := HBW3.out.cell 0
  have e1 := HK3.out.blk.cell 1
  simp at e0 e1
  obtain ⟨W2, hW2⟩ : ∃ W2, W2 = W3.alloc (.cells #[.slice (some ⟨h, 0, none⟩) m m] 90) := ⟨_, rfl⟩
  have HSZ : Hid (W2.heap.size = w.heap.size + 3) := by rw [hW2, World.size_alloc, HS3.out]; exact rfl
  have HBX : Hid (Blk W2 W3.heap.size 90 #[.slice (some ⟨h, 0, none⟩) m m]) := by rw [hW2]; exact Blk.new _ _ _
  have HT2 : Hid (TzAt W2) := by rw [hW2]; exact hT.below htb (HL3.out.alloc (by have := HS3.out; have := HB.out; omega) _)
  have HRI : Hid (RdI B tg b w.heap.size sa sn sc h x m c ws st w [] W2) := by
    rw [hW2]
    refine ⟨⟨av, List.replicate m 0, HK3.out.alloc _, HA3.out.alloc _, ⟨words_blank m, by simp⟩, fun q => ?_⟩, HBW3.out.alloc _, HBC3.out.alloc _, HL3.out.alloc (by have := HS3.out; have := HB.out; omega) _, HKW3.out.alloc _⟩
    rw [bit_blank]
    refine ⟨(fun h => by cases h), fun h => ?_⟩
    obtain ⟨r, t, h1, _⟩ := h
    cases h1
  have hseq := mall_seq 5 (by omega) W3.heap.size h ws HWO.out.1 m HWO.out.2 (by omega) m (fun j => j ≠ h ∧ j ≠ 0) W2 HBX.out (by obtain ⟨_, _, h1, _⟩ := HRI.out.walk; exact h1.here) (by simp) HT2.out (by rw [HSZ.out]; have := HB.out; omega) (by simp)
  have HTB : Hid (0 < B) := htb
  rw [hW1] at hclr b2 b0 hW3
  rw [← hW3] at hclr
  clear hW1 hW3
  clear HBX HT2 HBW3 HBC3 HA3 HL3 HKW3 hT htb
  have HW2 := Lib.hid hW2
  clear hW2
  gi_wp2_with (refine ⟨trivial, ?_⟩; gi_at_call 57; refine (callsIn_wide.2 (mall_any (some ⟨h, 0, none⟩) m m _)).mono ?_; rintro e w3 ⟨rfl, rfl⟩)
  rw [← HW2.out]
  have HGE : Hid (B ≤ w.heap.size ∧ W2.heap.size = w.heap.size + 3) := ⟨HB.out, HSZ.out⟩
  clear HW2 hclr b2 b0 e0 e1 HK3 HK1 HBW HBC HA1 HL1 HSZ HS3 HB
  refine wpIn_rangeFunc_ownG rfl (by omega) (gf := 69) (lb := #[.pointer (some ⟨W3.heap.size, 0, none⟩)]) rfl trivial (enters_of Tryd.func69 (by kernel_rfl) rfl)
    hseq (fun h k => KeepX.trans h k) (fun W l o o' _ hl ho _ => KeepX.put hl ho) (Below.refl _ _) (fun _ => rfl)
    (fun (pre : List (MkP ws)) (W : World) => RdI B tg b w.heap.size sa sn sc h x m c ws st w (pre.map (fun (z : MkP ws) => z.1)) W)
    (fun _ _ _ => False)
    (fun s A B' row hs hg hr => hs.beside hg (by have h1 := hs.keep.1.size; have h2 := HGE.out.1; omega) (fun r e => ⟨by have h5 := (hr r e).1; have h2 := HGE.out.2; omega, (hr r e).2⟩) HGE.out.1)
    (fun _ _ _ _ _ hs _ _ => hs)
    HRI.out
    (fun (y : MkP ws) => { tmps := #[.pointer (some ⟨b, 0, none⟩), .int .u8 (c : Int), .pointer (some ⟨w.heap.size, 0, none⟩), .pointer (some ⟨w.heap.size + 1, 0, none⟩), .int .i64 (y.1 : Int), undef, .pointer (some ⟨b, 0, none⟩), .pointer (some ⟨b, 0, none⟩), .pointer (some ⟨b, 2, none⟩), .slice (some ⟨x, 0, none⟩) m m, .pointer (some ⟨b, 0, none⟩), .pointer (some ⟨b, 0, none⟩), .pointer (some ⟨b, 1, none⟩), .slice (some ⟨h, 0, none⟩) m m, .func (.func 69) #[] #[.pointer (some ⟨W3.heap.size, 0, none⟩)], .int .i64 (y.1 : Int), undef, undef, undef, undef, undef, undef, undef, undef, undef, undef, undef, undef, undef, undef, undef, undef, undef, undef, undef, undef, undef, undef, undef, undef, undef, undef, undef, undef, undef, undef, undef, undef, undef, undef], defers := [] }) ?assign ?body ?done ?stop
  case assign =>
    intro l y W K hK
    gi_wp2
    exact hK
  case stop =>
    intro D c pre W _ _ h
    exact h.elim
  case body =>
    rintro l2 pre y W hri hlt
    obtain ⟨p, hp⟩ := y
    have hps := HIN.out p hp
    obtain ⟨s, hs⟩ : ∃ s, st[p]? = some s := ⟨_, List.getElem?_eq_getElem (by rw [HSN.out]; exact hps)⟩
    obtain ⟨g2, off2, e2, hg2, hcs⟩ := HNS.out p s hs
    have hsm := List.mem_of_getElem? hs
    obtain ⟨k0, k1, k2, k3⟩ := HFIT.out s hsm
    have hBW : B ≤ W.heap.size := by have h1 := hri.keep.1.size; have h2 := HGE.out.1; omega
    obtain ⟨av2, wn2, hwk, how, hwok, hbits⟩ := hri.walk
    have HRI2 := Lib.hid hri
    have HST : Hid (∀ W', Below W.heap.size W W' → ¬ (s.kind = 1 ∧ inNs s c = true) → KeepsFrom W2.heap.size W W' ∧ KeepX (fun j => j ≠ h ∧ j ≠ 0) W W' ∧ RdI B tg b w.heap.size sa sn sc h x m c ws st w ((pre ++ [(⟨p, hp⟩ : MkP ws)]).map (fun (z : MkP ws) => z.1)) W') := fun W' hl hn => by
      refine ⟨keepsFrom_low _ hl, KeepX.of_below hl, HRI2.out.later hl hBW (fun q => ?_)⟩
      rw [List.map_append]
      exact stepL_none hs hn q
    have w0d := hri.box.drew.cell 0
    have w1d := hri.byte.drew.cell 0
    have b0d := hwk.blk.drew.cell 0
    have w0 := hri.box.cell 0
    have b0 := hwk.blk.cell 0
    simp at w0d w1d b0d w0 b0
    have hcw : ∀ W', Below B w W' → ∀ j u, (nsCells s)[j]? = some u → W'.cell? ⟨g2, off2 + p * 8 + j, none⟩ = some u := fun W' hl j u hj => (hl.cell (p := ⟨g2, off2 + p * 8 + j, none⟩) hg2).trans (hcs j u hj)
    have a0d := hcw W.drew hri.low.drew 0 _ rfl
    have a1d := hcw W.drew hri.low.drew 1 _ rfl
    have a2d := hcw W.drew hri.low.drew 2 _ rfl
    have a3d := hcw W.drew hri.low.drew 3 _ rfl
    have a4d := hcw W.drew hri.low.drew 4 _ rfl
    rw [Nat.add_zero] at a0d
    have HCW := Lib.hid hcw
    subst e2
    have hps2 : (p : Int) < (sn : Int) := by omega
    have hp0 : (0 : Int) ≤ (p : Int) := by omega
    obtain ⟨R, hR⟩ : ∃ R, R = inNs s c := ⟨_, rfl⟩
    have HHAS := Lib.hid (nhas_any s c hc k0 k1 k2 k3 W.drew)
    rw [← hR] at HHAS
    clear hseq hcw hri
    by_cases hk1 : s.kind = 1
    · have hkk : ((s.kind : Int) == 1) = true := by rw [hk1]; rfl
      cases R with
      | true =>
        obtain ⟨A, hA⟩ : ∃ A, A = s.a.toNat := ⟨_, rfl⟩
        obtain ⟨h1, h2⟩ := (HW.out s hsm).1 hk1
        have hAs : s.a = (A : Int) := by omega
        have hAl : A < sn := by have := HSN.out; omega
        have hcl : Closed st (fun q => bitAt wn2 q = true) := fun q t hq e1 e2 => by
          have h3 := step_closed st (· ∈ pre.map (fun (z : MkP ws) => z.1)) c q t ((hbits q).1 hq) e1 e2
          exact ⟨(hbits _).2 h3.1, (hbits _).2 h3.2⟩
        have HWK := Lib.hid hwk
        have HOW := Lib.hid how
        have HWOK := Lib.hid hwok
        have HBITS := Lib.hid hbits
        have HCL := Lib.hid hcl
        have HCM : Hid (∀ w5, Below W.drew.heap.size W.drew w5 → Calls Tryd.prog 56 #[.pointer (some ⟨b, 0, none⟩), .int .i64 (A : Int)] w5.drew fun e w' => (∃ v, e = .returned v) ∧ ComeOut B tg b (some ⟨g2, off2, none⟩) sn sc h x m ws wn2 (Reach st A) st w5.drew w') := fun w5 hl =>
          come_any B tg b (some ⟨g2, off2, none⟩) sc h x m av2 ws wn2 st sn HSN.out A w5.drew (HWK.out.drew.keep (fun _ _ _ hb _ => hb.below hl hb.lt)).drew (HOW.out.drew.later hl).drew (Nat.le_trans hBW hl.size) (HNS.out.below ((HRI2.out.low.drew.trans (hl.mono hBW)).drew)) HW.out HWOK.out.1 HWOK.out.2 hm hnm hAl HCL.out
        have HV : Hid (∀ w5, Below W.drew.heap.size W.drew w5 → w5.drew.cell? ⟨w.heap.size, 0, none⟩ = some (.pointer (some ⟨b, 0, none⟩)) ∧ w5.drew.cell? ⟨g2, off2 + p * 8 + 5, none⟩ = some (.int .i64 (A : Int))) := fun w5 hl => by
          refine ⟨?_, ?_⟩
          · have h3 := ((HRI2.out.box.drew.below hl HRI2.out.box.lt).drew).cell 0
            simpa using h3
          · have h3 := HCW.out w5.drew (HRI2.out.low.drew.trans (hl.mono hBW)).drew 5 _ rfl
            rw [hAs] at h3
            exact h3
        have HFIN : Hid (∀ w5 w6, Below W.drew.heap.size W.drew w5 → ComeOut B tg b (some ⟨g2, off2, none⟩) sn sc h x m ws wn2 (Reach st A) st w5.drew w6 → KeepsFrom W2.heap.size W w6 ∧ KeepX (fun j => j ≠ h ∧ j ≠ 0) W w6 ∧ RdI B tg b w.heap.size (some ⟨g2, off2, none⟩) sn sc h x m c ws st w ((pre ++ [(⟨p, hp⟩ : MkP ws)]).map (fun (z : MkP ws) => z.1)) w6) := fun w5 w6 hl ho => by
          obtain ⟨av', wn', k1, k2, k3, k4, k5, _⟩ := ho.walk
          have hl5 : Below B W w5.drew := (Below.refl _ W).drew.trans (hl.mono hBW) |>.drew
          have hk5 : KeepW tg W w5.drew := KeepW.of_below (((Below.refl _ W).drew.trans hl).drew)
          have hkw := hk5.trans ho.keep
          refine ⟨hkw.1.from _, keepX_here HWK.out.here k1.here (hl5.trans ho.low) HTB.out, ⟨⟨av', wn', k1, k2, ⟨k3, k4⟩, fun q => ?_⟩, hkw.2 _ _ _ HRI2.out.box (by decide) (by decide) (.inl (by decide)), hkw.2 _ _ _ HRI2.out.byte (by decide) (by decide) (.inl (by decide)), HRI2.out.low.trans (hl5.trans ho.low), HRI2.out.keep.trans hkw⟩⟩
          rw [List.map_append]
          refine (k5 q).trans ((or_congr_left (HBITS.out q)).trans ?_)
          rw [hA]
          exact (stepL_one hs hk1 hR.symm q).symm
        clear HST HRI2 HCW hk1 hR hwk how hwok hbits k0 k1 k2 k3 hcl HWK HOW HWOK HBITS HCL h1 h2 hA hAs hAl hs
        gi_wp2
        gi_region_with (refine ⟨trivial, ?_⟩; gi_at_call 58; refine (CallsIn.inRound l2 (callsIn_wide.2 HHAS.out)).mono ?_; rintro e w5 ⟨rfl, hb5⟩; have HB5 := Lib.hid hb5; obtain ⟨v0, v5⟩ := HV.out w5 hb5; clear hb5)
        all_goals gi_wp2
        all_goals gi_region_with (refine ⟨trivial, ?_⟩; gi_at_call 56; refine (CallsIn.inRound l2 (callsIn_wide.2 (HCM.out w5 HB5.out))).mono ?_; rintro e w6 ⟨⟨v6, rfl⟩, hout⟩; have HO6 := Lib.hid hout; clear hout)
        all_goals gi_wp2
        all_goals exact HFIN.out w5 w6 HB5.out HO6.out
      | false =>
        have HF := Lib.hid (fun W' hl => HST.out W' hl (by rintro ⟨_, h2⟩; rw [← hR] at h2; cases h2))
        clear HST HRI2 HCW hk1 hR hwk how hwok hbits k0 k1 k2 k3 hs
        gi_wp2
        gi_region_with (refine ⟨trivial, ?_⟩; gi_at_call 58; refine (CallsIn.inRound l2 (callsIn_wide.2 HHAS.out)).mono ?_; rintro e w5 ⟨rfl, hb5⟩; have HB5 := Lib.hid hb5; clear hb5)
        all_goals gi_wp2
        all_goals exact HF.out _ ((Below.refl _ W).drew.trans HB5.out)
    · have hkk : ((s.kind : Int) == 1) = false := by rw [Bool.eq_false_iff]; intro e; rw [beq_iff_eq] at e; omega
      have HF := Lib.hid (HST.out W.drew (Below.refl _ W).drew (fun h => hk1 h.1))
      clear HST HRI2 HCW hk1 hR hwk how hwok hbits k0 k1 k2 k3 HHAS hs
      gi_wp2
      gi_region_with (refine ⟨trivial, ?_⟩)
      all_goals gi_wp2
      all_goals exact HF.out
  case done =>
    rintro D xs W hD0 hxs hri hD
    obtain ⟨av2, wn2, hwk, how, hwok, hbits⟩ := hri.walk
    have hcp := fun ty => copy_words ty W.drew h x m ws wn2 hwk.here.drew hwk.next.drew HWO.out.2 hwok.2
    have w0d := hri.box.drew.cell 0
    have b1d := hwk.blk.drew.cell 1
    have b2d := hwk.blk.drew.cell 2
    simp at w0d b1d b2d
    have HRI2 := Lib.hid hri
    have HWK := Lib.hid hwk
    have HOW := Lib.hid how
    have HWOK := Lib.hid hwok
    have HBITS := Lib.hid hbits
    have HX := Lib.hid hxs
    have HD : Hid (W.heap[D]? = some (.deferred (some [])) ∧ W2.heap.size ≤ D) := ⟨hD, hD0⟩
    clear hri hwk how hwok hbits hxs hD hseq
    gi_wp2
    gi_region
    have hne : D ≠ h := by
      rintro rfl
      have h1 := HD.out.1
      rw [show W.heap[D]? = _ from HWK.out.here] at h1
      cases h1
    have hD2 : (W.drew.setRow h (wordsV wn2)).heap[D]? = some (.deferred (some [])) := (Go.setRow_other W.drew h D _ hne).trans HD.out.1
    have hg := grownBy_putObj' (W.drew.setRow h (wordsV wn2)) D (.deferred none)
    have hr : ∀ r, some D = some r → ∃ o : Obj, (W.drew.setRow h (wordsV wn2)).heap[r]? = some o ∧ o.isCells = false := fun r e => by
      injection e with e
      subst e
      exact ⟨_, hD2, rfl⟩
    have hwB : B ≤ W.heap.size := by have h1 := HRI2.out.keep.1.size; have h2 := HGE.out.1; omega
    have hl9 : Below B w (W.drew.setRow h (wordsV wn2)) := below_setRow HRI2.out.low.drew HWK.out.ge.2.1 _
    have hk9 : KeepW tg w (W.drew.setRow h (wordsV wn2)) := keepW_row HRI2.out.keep.drew HWK.out.here.drew _
    have hsz9 : (W.drew.setRow h (wordsV wn2)).heap.size = W.heap.size := size_setRow _ _ _
    refine ⟨by simp, .inl ⟨_, _, rfl, run_takeDeferred hD2, ?_⟩⟩
    refine ⟨.tuple #[], by simp [results, Tryd.f37, go_sem], ⟨_, rfl⟩, ⟨av2, wn2, wn2, HWK.out.drew.copied.keep (fun _ _ _ hb _ => blk_beside hb hg hr), ⟨own_beside (own_row_other HOW.out.own.drew HWK.out.here.drew (by decide) _) hg hr, HOW.out.ne, Nat.lt_of_lt_of_le (by rw [hsz9]; exact HOW.out.lt) hg.size⟩, HWOK.out, HWOK.out, fun q => ?_⟩, hl9.grown hg (by rw [hsz9]; exact hwB) (fun r e => by injection e with e; subst e; have h1 := HD.out.2; have h2 := HGE.out; omega), ⟨Nat.le_trans hk9.1.size hg.size, fun j o hj ho => ?_⟩, fun g t cs hb k1 k2 k3 => blk_beside (hk9.2 g t cs hb k1 k2 k3) hg hr⟩
    · refine (HBITS.out q).trans (stepS_congr (fun r => ⟨fun hq => ?_, fun hq => HX.out r hq⟩) c q)
      obtain ⟨z, _, rfl⟩ := List.mem_map.1 hq
      exact z.2
    · have h5 := hk9.1.same j o hj ho
      refine (hg.block j (Array.getElem?_eq_some_iff.1 h5).1 (fun e => ?_)).trans h5
      injection e with e
      have h7 := (Array.getElem?_eq_some_iff.1 hj).1
      have h8 := HD.out.2
      have h9 := HGE.out.2
      omega
end Go.Proofs.YtdckjjkaoecgaaaDoor
