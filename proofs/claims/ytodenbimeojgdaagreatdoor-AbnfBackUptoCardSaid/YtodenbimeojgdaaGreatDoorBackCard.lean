/-
  AbnfBack answers true, and leaves its arguments as they were, for every input of bulk at most 1048576 (the form 'Upto'): the row, and the tied card. Conditions: that bound; the listed tables as the program's text lays them (the card ties them).
-/
import Derived.Test.YtodenbimeojgdaaGreatDoorM08
import Derived.Test.YtodenbimeojgdaaGreatDoorTie
import Derived.Test.YtodenbimeojgdaaGreatDoorCards
import Derived.WalkKit
import Derived.ProofKit
import Derived.OpenShut
import Derived.LaidMore
import Derived.Lay
import Derived.SevenTiedAt
import Derived.Stop.Joined
import Derived.Stop.LaidErr
import Derived.Lib.LaidTab
import Derived.Deep.DeepHandedRow
import Derived.ShutString
import Derived.ChangeOld
import Derived.Below
/-
  AbnfBack answers true: its walk. Conditions: the arguments lie in memory; the tables lie where they do; what is printed is within bounds.
-/
namespace Go.Proofs.YtodenbimeojgdaaGreatDoor
open Go.RowKit

theorem fit_grown (u : List Nat) (hu : u.length ≤ 200) (more : Bool) : Fit { name := [114, 45, 49], place := 0, more := more, tree := (growT namesL u 6 0).1 } ∧ rightB (growT namesL u 6 0).1 = true := by
  obtain ⟨ra, ya, ta, _⟩ := grown_whole namesL namesL_ok u
  have la := grown_short namesL namesL_ok namesL_7 u hu
  refine ⟨⟨ya, ta, by unfold maxLen; show 3 ≤ _; omega, ?_⟩, ra⟩
  show (printP [114, 45, 49] more (growT namesL u 6 0).1).1.length ≤ _
  unfold printP
  rw [ra, show nameB [114, 45, 49] = true from by decide]
  show ([114, 45, 49] ++ (if more = true then [32, 61, 47, 32] else [32, 61, 32]) ++ printD 100 (growT namesL u 6 0).1).length ≤ _
  have h4 : (if more = true then [32, 61, 47, 32] else [32, 61, 32] : List UInt8).length ≤ 4 := by cases more <;> simp
  simp only [List.length_append, List.length_cons, List.length_nil]
  omega

theorem flatR_len (ps : Rrow) : (flatR ps).length = ps.length * 10 := by
  induction ps with
  | nil => rfl
  | cons a q ih =>
    have e : flatR (a :: q) = ruleCells a.1 a.2 ++ flatR q := by simp [flatR]
    rw [e, List.length_append, ih]
    show 10 + _ = (q.length + 1) * 10
    omega
theorem flatR_one {w : World} {F : Nat → Prop} {ps : Rrow} (h : RKids w F ps) : ∀ u ∈ flatR ps, u.oneCell' = true := by
  intro u hu
  unfold flatR at hu
  obtain ⟨p, hp, hu⟩ := List.mem_flatMap.1 hu
  obtain ⟨a, c, e, _⟩ := (h p hp).1.form
  unfold ruleCells at hu
  rw [e] at hu
  simp only [List.mem_cons, List.not_mem_nil, or_false] at hu
  rcases hu with rfl | rfl | rfl | rfl | rfl | rfl | rfl | rfl | rfl | rfl <;> rfl

set_option maxRecDepth 1000000 in
set_option maxHeartbeats 8000000 in
theorem AbnfBack_ok (r : Rl) (sp : Option Addr) (sc : Nat) (UA : Option Addr) (uc : Nat) (u : List Nat) (more : Bool) (l : List UInt8) (w : World) (hk : KidsAt w (· < w.heap.size) r.tree.kids (.slice sp r.tree.kids.length sc)) (hf : Fit r) (htx : r.tree.text.length ≤ maxLen) (hu : NumsAt w UA u) (hu2 : u.length ≤ 200) (hl2 : l.length ≤ 2000) (hlv : LeavesAt w) (hpw : PowAt w) :
    Calls Tryz.prog 4 #[.agg (ruleCells r (.slice sp r.tree.kids.length sc)).toArray, .slice UA u.length uc, .bool more, .string (bs l)] w fun e w' => e = .returned (.bool true) ∧ Below w.heap.size w w' := by
  obtain ⟨hfg, hrg⟩ := fit_grown u hu2 more
  have HFG := Lib.hid hfg
  have HF := Lib.hid hf
  have HK := Lib.hid hk
  have HTX := Lib.hid htx
  have HU := Lib.hid hu
  have HWAKE : Hid (∀ W, Below w.heap.size w W → Calls Tryz.prog 8 #[] W fun e w' => e = .returned (.bool true) ∧ Below W.heap.size W w') := fun W hW => awake_any W (hlv.below hW hlv.lt) (hpw.below hW hpw.lt)
  have HLV : Hid (∀ W, Below w.heap.size w W → LeavesAt W) := fun W hW => hlv.below hW hlv.lt
  have HPW : Hid (∀ W, Below w.heap.size w W → PowAt W) := fun W hW => hpw.below hW hpw.lt
  have HN : Hid (∀ W, Below w.heap.size w W → Calls Tryz.prog 7 #[treeV r.tree (.slice sp r.tree.kids.length sc), .int .i64 300] W fun e w2 => NodesOut 300 e ∧ Below W.heap.size W w2) := fun W hW => Nodes_any r.tree _ W (hk.later hW.size (fun b hl _ => ⟨Nat.lt_of_lt_of_le hl hW.size, hW.block b hl⟩))
  have HNM : Hid (∀ W, Calls Tryz.prog 18 #[] W fun e w' => ∃ g, e = .returned (.slice (some ⟨g, 0, none⟩) 8 8) ∧ WordsAt w' (some ⟨g, 0, none⟩) namesL ∧ Below W.heap.size W w') := fun W => Names_any W
  have HGR : Hid (∀ W g, Below w.heap.size w W → WordsAt W (some ⟨g, 0, none⟩) namesL → Calls Tryz.prog 17 #[.slice UA u.length uc, .slice (some ⟨g, 0, none⟩) 8 8] W fun e w' => ∃ sl, e = .returned (treeV (growT namesL u 6 0).1 sl) ∧ KidsAt w' (fun b => W.heap.size ≤ b) (growT namesL u 6 0).1.kids sl ∧ Below W.heap.size W w') := fun W g hW hn => Grown_any UA uc u (some ⟨g, 0, none⟩) 8 namesL W (hu.below hW) hu2 hn
  have HOF : Hid (∀ W, LeavesAt W → Calls Tryz.prog 19 #[.string (bs l)] W fun e w' => ParseOut W (ofP l) e w') := fun W hW => of_short l (by omega) W hW
  have HRF : Hid ((ofP l).2.2 = 0 → ∀ r ∈ (ofP l).1, Fit r) := fun h => rules_fit l hl2 h
  have HFW : Hid ((ofP l).2.2 = 0 → (ofP l).1.length ≤ 4001) := fun h => rules_few l hl2 h
  have HRG := Lib.hid hrg
  have hsl : (bs l).size ≤ 2000 := by rw [bs_size]; exact hl2
  clear hk hf htx hu hlv hpw hfg hrg hl2
  generalize (growT namesL u 6 0).1 = G at *
  generalize ofP l = O at *
  generalize bs l = S at *
  have HB1 : Hid (Below w.heap.size w (w.alloc (.cells #[.string (bs r.name), .int .i64 r.place, .bool r.more, .int .u8 r.tree.kind, .string (bs r.tree.text), .int .u8 r.tree.lo, .int .u8 r.tree.hi, .int .i64 r.tree.mn, .int .i64 r.tree.mx, .slice sp r.tree.kids.length sc] 27))) := (Below.refl _ _).alloc (Nat.le_refl _) _
  have HBR : Hid (Blk (w.alloc (.cells #[.string (bs r.name), .int .i64 r.place, .bool r.more, .int .u8 r.tree.kind, .string (bs r.tree.text), .int .u8 r.tree.lo, .int .u8 r.tree.hi, .int .i64 r.tree.mn, .int .i64 r.tree.mx, .slice sp r.tree.kids.length sc] 27)) w.heap.size 27 #[.string (bs r.name), .int .i64 r.place, .bool r.more, .int .u8 r.tree.kind, .string (bs r.tree.text), .int .u8 r.tree.lo, .int .u8 r.tree.hi, .int .i64 r.tree.mn, .int .i64 r.tree.mx, .slice sp r.tree.kids.length sc]) := Blk.new _ _ _
  unfold treeV at HN
  unfold ruleCells
  go_enter Tryz.func4, Tryz.ntmps4
  go_wp2_with (go_at_call 7; refine (HN.out _ HB1.out).mono ?_)
  rintro e w1 ⟨⟨m, rfl, hm1, hm2⟩, hb1⟩
  have HW1 : Hid (Below w.heap.size w w1) := HB1.out.trans (hb1.mono HB1.out.size)
  have HR1 := Lib.hid (HBR.out.below hb1 HBR.out.lt)
  clear hb1 HBR HB1 HN
  by_cases h3 : m ≤ 300
  · have h3' : ¬ (300 : Int) < m := by omega
    have hu' : ¬ (200 : Int) < u.length := by omega
    have hs' : ¬ (2000 : Int) < S.size := by omega
    go_wp2_with (go_at_call 18; refine (HNM.out _).mono ?_)
    rintro e w2 ⟨gn, rfl, hwords, hb2⟩
    have HG2 := Lib.hid (HGR.out w2 gn (HW1.out.trans (hb2.mono HW1.out.size)) hwords)
    have HW2 : Hid (Below w.heap.size w w2) := HW1.out.trans (hb2.mono HW1.out.size)
    have HR2 := Lib.hid (HR1.out.below hb2 HR1.out.lt)
    clear hb2 hwords HGR HNM HR1 HW1
    go_wp2_with (go_at_call 17; refine HG2.out.mono ?_)
    rintro e w3 ⟨slg, rfl, hkg, hb3⟩
    obtain ⟨gp, gc, rfl, _⟩ := hkg.form
    have HW3 : Hid (Below w.heap.size w w3) := HW2.out.trans (hb3.mono HW2.out.size)
    have HR3 := Lib.hid (HR2.out.below hb3 HR2.out.lt)
    have HKG := Lib.hid (hkg.mono (S' := (· < w3.heap.size)) (fun b hl _ => hl))
    clear hkg hb3 HG2 HR2 HW2
    unfold treeV
    have HB4 : Hid (Below w3.heap.size w3 (w3.alloc (.cells #[.string ⟨#[114, 45, 49]⟩, .int .i64 0, .bool more, .int .u8 G.kind, .string (bs G.text), .int .u8 G.lo, .int .u8 G.hi, .int .i64 G.mn, .int .i64 G.mx, .slice gp G.kids.length gc] 27))) := (Below.refl _ _).alloc (Nat.le_refl _) _
    have HBG : Hid (Blk (w3.alloc (.cells #[.string ⟨#[114, 45, 49]⟩, .int .i64 0, .bool more, .int .u8 G.kind, .string (bs G.text), .int .u8 G.lo, .int .u8 G.hi, .int .i64 G.mn, .int .i64 G.mx, .slice gp G.kids.length gc] 27)) w3.heap.size 27 #[.string ⟨#[114, 45, 49]⟩, .int .i64 0, .bool more, .int .u8 G.kind, .string (bs G.text), .int .u8 G.lo, .int .u8 G.hi, .int .i64 G.mn, .int .i64 G.mx, .slice gp G.kids.length gc]) := Blk.new _ _ _
    have HRT : Hid (∀ W, Below w3.heap.size w3 W → Calls Tryz.prog 13 #[treeV G (.slice gp G.kids.length gc)] W fun e w' => e = .returned (.bool true) ∧ Below W.heap.size W w') := fun W hW => by
      have := abRight_any G (.slice gp G.kids.length gc) W (HKG.out.later hW.size (fun b hl _ => ⟨Nat.lt_of_lt_of_le hl hW.size, hW.block b hl⟩)) HFG.out.texts.1
      rw [HRG.out] at this
      exact this
    unfold treeV at HRT
    go_wp2_with (go_at_call 13; refine (HRT.out _ HB4.out).mono ?_)
    rintro e w5 ⟨rfl, hb5⟩
    have HB5 : Hid (Below w3.heap.size w3 w5) := HB4.out.trans (hb5.mono HB4.out.size)
    have HBG5 := Lib.hid (HBG.out.below hb5 HBG.out.lt)
    have HO5 := Lib.hid (HOF.out w5 (HLV.out _ (HW3.out.trans (HB5.out.mono HW3.out.size))))
    clear hb5 HBG HB4 HRT HOF
    go_wp2_with (go_at_call 19; refine HO5.out.mono ?_)
    rintro e w6 ⟨v, rfl, hrules, hb6⟩
    obtain ⟨⟨ps, hps, hown, hkids⟩⟩ := hrules
    obtain ⟨os, oat, oer⟩ := O
    have HB6 : Hid (Below w3.heap.size w3 w6) := HB5.out.trans (hb6.mono HB5.out.size)
    have HBG6 := Lib.hid (HBG5.out.below hb6 HBG5.out.lt)
    have HR6 := Lib.hid (HR3.out.below HB6.out HR3.out.lt)
    have HRR : Hid (RRow w6 v ps) := RRow.of_own hown hkids
    have HFIT : Hid (oer = 0 → (∀ p ∈ ps, Fit p.1) ∧ ps.length ≤ 4001) := fun h0 => by
      have hps : ps.map Prod.fst = os := hps
      refine ⟨fun p hp => HRF.out h0 p.1 (by show p.1 ∈ os; rw [← hps]; exact List.mem_map_of_mem hp), ?_⟩
      have := HFW.out h0
      have e : ps.length = os.length := by rw [← hps, List.length_map]
      rw [e]
      exact this
    obtain ⟨vA, vc, rfl, _⟩ := HRR.out.row
    clear hps hown hkids hb6 HBG5 HB5 HR3 HO5 HRF HFW
    dsimp only
    go_upto_if 51 with fail
    go_cut [10] (fun v' wx => ∃ (ps' : Rrow) (A : Option Addr) (c : Nat), v' = .slice A ps'.length c ∧ Hid (RRow w6 (.slice A ps'.length c) ps' ∧ (∀ p ∈ ps', Fit p.1) ∧ ps'.length ≤ 4001) ∧ w6 = wx)
    case first =>
      by_cases h0 : oer = 0
      · have HFT := Lib.hid (HFIT.out h0)
        subst h0
        go_wp2
        go_meet
        exact ⟨ps, vA, vc, rfl, ⟨HRR.out, HFT.out⟩, rfl⟩
      · go_wp2
        go_meet
        exact ⟨[], none, 0, rfl, ⟨⟨⟨none, 0, rfl, fun h => (by cases h)⟩, fun p hp => (by cases hp)⟩, (fun p hp => (by cases hp)), Nat.zero_le _⟩, rfl⟩
    case rest =>
      obtain ⟨qs, qA, qc, rfl, HQ, rfl⟩ := hcut
      obtain ⟨i0, hi0, hz0, hz1, hz2⟩ := info_parts Tryz.infoRule
      have hqf : qs.length ≤ 4001 := HQ.out.2.2
      have HBS : Hid (Below w6.heap.size w6 (w6.alloc (.cells (flatR [(({ name := [114, 45, 49], place := 0, more := more, tree := G } : Rl), Value.slice gp G.kids.length gc), (r, Value.slice sp r.tree.kids.length sc)]).toArray 27))) := (Below.refl _ _).alloc (Nat.le_refl _) _
      have HQ2 : Hid (RRow (w6.alloc (.cells (flatR [(({ name := [114, 45, 49], place := 0, more := more, tree := G } : Rl), Value.slice gp G.kids.length gc), (r, Value.slice sp r.tree.kids.length sc)]).toArray 27)) (.slice qA qs.length qc) qs) := HQ.out.1.below HBS.out
      have HO2 : Hid ((w6.alloc (.cells (flatR [(({ name := [114, 45, 49], place := 0, more := more, tree := G } : Rl), Value.slice gp G.kids.length gc), (r, Value.slice sp r.tree.kids.length sc)]).toArray 27)).ownsRow w6.heap.size 27 10 (.slice (some ⟨w6.heap.size, 0, none⟩) 2 2) 2 (flatR [(({ name := [114, 45, 49], place := 0, more := more, tree := G } : Rl), Value.slice gp G.kids.length gc), (r, Value.slice sp r.tree.kids.length sc)])) := World.ownsRow_lit w6 _ 2 (Nat.le_refl _) (by unfold maxLen; omega) rfl
      have HN2 : Hid (0 < qs.length → ∃ ad, qA = some ad ∧ ∀ j u, (flatR qs)[j]? = some u → (w6.alloc (.cells (flatR [(({ name := [114, 45, 49], place := 0, more := more, tree := G } : Rl), Value.slice gp G.kids.length gc), (r, Value.slice sp r.tree.kids.length sc)]).toArray 27)).cell? (ad.add j) = some u) := fun hp => by
        obtain ⟨A', c', hv, hA⟩ := HQ2.out.row
        injection hv with e1 e2 e3
        subst e1
        obtain ⟨g, off, rfl, _, hc⟩ := hA hp
        exact ⟨_, rfl, fun j u hu => by rw [Go.WideShapes.add_plain]; exact hc j u hu⟩
      have hcG := HBG6.out.cell
      have hcR := HR6.out.cell
      go_wp2_with (at_builtin; refine wpList_append_any rfl _ _ 35 rfl w6.heap.size 27 i0 _ 10 104 Tryz.underlying35 hi0 hz0 hz1 hz2 rfl (by decide) w6.heap.size 2 2 _ (by rfl) HO2.out qA qs.length qc (flatR qs) (by rfl) (flatR_len qs) HN2.out (flatR_one HQ.out.1.kids) ?c1 ?c2 ?c3 ?_)
      case c1 => unfold maxLen; omega
      case c2 => omega
      case c3 => simp
      intro g7 cap7 w7 hown7 hgrow7
      obtain ⟨rows, hrows⟩ : ∃ rows : Rrow, rows = [(({ name := [114, 45, 49], place := 0, more := more, tree := G } : Rl), Value.slice gp G.kids.length gc), (r, Value.slice sp r.tree.kids.length sc)] ++ qs := ⟨_, rfl⟩
      have hlen : rows.length = 2 + qs.length := by rw [hrows, List.length_append]; rfl
      have hB67 : Below w6.heap.size w6 w7 := HBS.out.grown hgrow7 (by simp) (fun k hk => by injection hk with hk; omega)
      have hW6 : Below w.heap.size w w6 := HW3.out.trans (HB6.out.mono HW3.out.size)
      have hflat : flatR rows = flatR [(({ name := [114, 45, 49], place := 0, more := more, tree := G } : Rl), Value.slice gp G.kids.length gc), (r, Value.slice sp r.tree.kids.length sc)] ++ flatR qs := by rw [hrows]; simp [flatR]
      have hkr : RKids w7 (· < w7.heap.size) rows := by
        intro p hp
        rw [hrows, List.mem_append] at hp
        rcases hp with hp | hp
        · simp only [List.mem_cons, List.not_mem_nil, or_false] at hp
          rcases hp with rfl | rfl
          · exact ⟨HKG.out.later (HB6.out.trans (hB67.mono HB6.out.size)).size (fun b hl _ => ⟨Nat.lt_of_lt_of_le hl (HB6.out.trans (hB67.mono HB6.out.size)).size, (HB6.out.trans (hB67.mono HB6.out.size)).block b hl⟩), HFG.out.texts.1⟩
          · exact ⟨HK.out.later (hW6.trans (hB67.mono hW6.size)).size (fun b hl _ => ⟨Nat.lt_of_lt_of_le hl (hW6.trans (hB67.mono hW6.size)).size, (hW6.trans (hB67.mono hW6.size)).block b hl⟩), HTX.out⟩
        · have hq := HQ.out.1.kids p hp
          exact ⟨hq.1.later hB67.size (fun b hl _ => ⟨Nat.lt_of_lt_of_le hl hB67.size, hB67.block b hl⟩), hq.2⟩
      have hfr : ∀ p ∈ rows, Fit p.1 := by
        intro p hp
        rw [hrows, List.mem_append] at hp
        rcases hp with hp | hp
        · simp only [List.mem_cons, List.not_mem_nil, or_false] at hp
          rcases hp with rfl | rfl
          · exact HFG.out
          · exact HF.out
        · exact HQ.out.2.1 p hp
      rw [← hflat, ← hlen] at hown7
      have HRW : Hid (RRow w7 (.slice (some ⟨g7, 0, none⟩) rows.length cap7) rows) := RRow.of_own hown7 hkr
      have HKR := Lib.hid hkr
      have HFR := Lib.hid hfr
      have HW7 : Hid (Below w.heap.size w w7) := hW6.trans (hB67.mono hW6.size)
      have hN : rows.length ≤ 4003 := by omega
      rw [← hlen]
      clear hown7 hgrow7 hB67 hW6 hflat hkr hfr hlen hrows HBS HQ2 HO2 HN2 HQ hcG hcR HBG6 HR6 HKG HK HF HFG HRR HFIT HB6 HW3 HRG HTX HU hi0 hz0 hz1 hz2
      generalize hNN : rows.length = N at *
      have HNN := Lib.hid hNN
      clear hNN
      go_wp2
      go_loopw [14, 15, 16, 17, 18, 19, 58] (fun _ _ _ _ _ _ i wr => ∃ k : Nat, k ≤ N ∧ i = .int .i64 k ∧ Below w7.heap.size w7 wr) (fun _ _ _ _ _ _ i _ => N - (intOf i).toNat)
      case atStart => exact ⟨0, Nat.zero_le _, rfl, Below.refl _ _⟩
      case round =>
        obtain ⟨k, hk, rfl, hbel⟩ := hrel
        by_cases hlt : k < N
        · obtain ⟨⟨xr, xsl⟩, hx⟩ : ∃ x, rows[k]? = some x := ⟨_, List.getElem?_eq_getElem (by rw [HNN.out]; exact hlt)⟩
          have hfx : Fit xr := HFR.out _ (List.mem_of_getElem? hx)
          have htx : xr.tree.text.length ≤ maxLen := (HKR.out _ (List.mem_of_getElem? hx)).2
          obtain ⟨g', off', he, hg', a0, a1, a2, a3, a4, a5, a6, a7, a8, a9, ka⟩ := (HRW.out.below hbel).at_ hx
          have e1 : g7 = g' := by injection he with he; injection he
          have e2 : 0 = off' := by injection he with he; injection he
          subst e1 e2
          simp only [Nat.zero_add] at a0 a1 a2 a3 a4 a5 a6 a7 a8 a9
          obtain ⟨kp, kc, e3, _⟩ := ka.form
          obtain rfl : xsl = .slice kp xr.tree.kids.length kc := e3
          have hlt' : (k : Int) < N := by omega
          have h0' : (0 : Int) ≤ k := by omega
          obtain ⟨txt, er, hpr⟩ : ∃ txt er, printP xr.name xr.more xr.tree = (txt, er) := ⟨_, _, rfl⟩
          have HBX : Hid (Below w7.heap.size w7 (wr.alloc (.cells #[.string (bs xr.name), .int .i64 xr.place, .bool xr.more, .int .u8 xr.tree.kind, .string (bs xr.tree.text), .int .u8 xr.tree.lo, .int .u8 xr.tree.hi, .int .i64 xr.tree.mn, .int .i64 xr.tree.mx, .slice kp xr.tree.kids.length kc] 27))) := hbel.alloc hbel.size _
          have HBK : Hid (Blk (wr.alloc (.cells #[.string (bs xr.name), .int .i64 xr.place, .bool xr.more, .int .u8 xr.tree.kind, .string (bs xr.tree.text), .int .u8 xr.tree.lo, .int .u8 xr.tree.hi, .int .i64 xr.tree.mn, .int .i64 xr.tree.mx, .slice kp xr.tree.kids.length kc] 27)) wr.heap.size 27 #[.string (bs xr.name), .int .i64 xr.place, .bool xr.more, .int .u8 xr.tree.kind, .string (bs xr.tree.text), .int .u8 xr.tree.lo, .int .u8 xr.tree.hi, .int .i64 xr.tree.mn, .int .i64 xr.tree.mx, .slice kp xr.tree.kids.length kc]) := Blk.new _ _ _
          have HKX : Hid (∀ W, Below wr.heap.size wr W → KidsAt W (· < W.heap.size) xr.tree.kids (.slice kp xr.tree.kids.length kc)) := fun W hW => ka.later hW.size (fun b hl _ => ⟨Nat.lt_of_lt_of_le hl hW.size, hW.block b hl⟩)
          have HB9 : Hid (Below wr.heap.size wr (wr.alloc (.cells #[.string (bs xr.name), .int .i64 xr.place, .bool xr.more, .int .u8 xr.tree.kind, .string (bs xr.tree.text), .int .u8 xr.tree.lo, .int .u8 xr.tree.hi, .int .i64 xr.tree.mn, .int .i64 xr.tree.mx, .slice kp xr.tree.kids.length kc] 27))) := (Below.refl _ _).alloc (Nat.le_refl _) _
          have HPRI : Hid (Calls Tryz.prog 15 #[.agg (ruleCells xr (.slice kp xr.tree.kids.length kc)).toArray] (wr.alloc (.cells #[.string (bs xr.name), .int .i64 xr.place, .bool xr.more, .int .u8 xr.tree.kind, .string (bs xr.tree.text), .int .u8 xr.tree.lo, .int .u8 xr.tree.hi, .int .i64 xr.tree.mn, .int .i64 xr.tree.mx, .slice kp xr.tree.kids.length kc] 27)) fun e w' => e = .returned (.tuple #[.string (bs txt), .int .i64 er]) ∧ Below (wr.alloc (.cells #[.string (bs xr.name), .int .i64 xr.place, .bool xr.more, .int .u8 xr.tree.kind, .string (bs xr.tree.text), .int .u8 xr.tree.lo, .int .u8 xr.tree.hi, .int .i64 xr.tree.mn, .int .i64 xr.tree.mx, .slice kp xr.tree.kids.length kc] 27)).heap.size (wr.alloc (.cells #[.string (bs xr.name), .int .i64 xr.place, .bool xr.more, .int .u8 xr.tree.kind, .string (bs xr.tree.text), .int .u8 xr.tree.lo, .int .u8 xr.tree.hi, .int .i64 xr.tree.mn, .int .i64 xr.tree.mx, .slice kp xr.tree.kids.length kc] 27)) w') := by
            have := Print_any xr (.slice kp xr.tree.kids.length kc) _ (HKX.out _ HB9.out) hfx.bytes hfx.texts (HPW.out _ (HW7.out.trans (HBX.out.mono HW7.out.size))) hfx.name hfx.len
            rw [hpr] at this
            exact this
          have HFX := Lib.hid hfx
          have HTX := Lib.hid htx
          have HPR := Lib.hid hpr
          have HBEL := Lib.hid hbel
          clear hx hfx htx hpr hbel ka he
          unfold ruleCells at HPRI
          go_wp2_with (go_at_call 15; refine HPRI.out.mono ?_)
          rintro e w8 rfl hb8
          have HBK8 := Lib.hid (HBK.out.below hb8 (by simp))
          have HB78 : Hid (Below w7.heap.size w7 w8) := HBX.out.trans (hb8.mono (by have := HBEL.out.size; simp; omega))
          have HB98 : Hid (Below wr.heap.size wr w8) := HB9.out.trans (hb8.mono (by simp))
          clear hb8 HBK HBX HB9 HPRI a0 a1 a2 a3 a4 a5 a6 a7 a8 a9
          have hcX := HBK8.out.cell
          by_cases her : er = 0
          · subst her
            by_cases hlong : txt.length ≤ 60000
            · have hz : ¬ (60000 : Int) < (bs txt).size := by rw [bs_size]; omega
              obtain ⟨pb, hof⟩ := printed_back xr.name xr.more xr.tree HFX.out.bytes txt HPR.out hlong
              have HOX : Hid (Calls Tryz.prog 19 #[.string (bs txt)] w8 fun e w' => ParseOut w8 ([{ name := xr.name, place := pb, more := xr.more, tree := xr.tree }], 0, 0) e w') := by
                have := of_short txt (by omega) w8 (HLV.out _ (HW7.out.trans (HB78.out.mono HW7.out.size)))
                rw [hof] at this
                exact this
              clear hof
              generalize bs txt = T at *
              go_wp2_with (go_at_call 19; refine HOX.out.mono ?_)
              intro e w9 h9
              obtain ⟨A9, c9, sl9, rfl, hr9, hb9⟩ := one_rule h9
              have HBK9 := Lib.hid (HBK8.out.below hb9 HBK8.out.lt)
              have HB79 : Hid (Below w7.heap.size w7 w9) := HB78.out.trans (hb9.mono HB78.out.size)
              have HRS : Hid (Calls Tryz.prog 12 #[.slice A9 1 c9, .slice (some ⟨w9.heap.size, 0, none⟩) 1 1, .bool false] (w9.alloc (.cells #[.string (bs xr.name), .int .i64 xr.place, .bool xr.more, .int .u8 xr.tree.kind, .string (bs xr.tree.text), .int .u8 xr.tree.lo, .int .u8 xr.tree.hi, .int .i64 xr.tree.mn, .int .i64 xr.tree.mx, .slice kp xr.tree.kids.length kc] 27)) fun e w' => e = .returned (.bool true) ∧ Below w9.heap.size w9 w') := by
                have hb10 : Below w9.heap.size w9 (w9.alloc (.cells #[.string (bs xr.name), .int .i64 xr.place, .bool xr.more, .int .u8 xr.tree.kind, .string (bs xr.tree.text), .int .u8 xr.tree.lo, .int .u8 xr.tree.hi, .int .i64 xr.tree.mn, .int .i64 xr.tree.mx, .slice kp xr.tree.kids.length kc] 27)) := (Below.refl _ _).alloc (Nat.le_refl _) _
                have hb99 : Below wr.heap.size wr (w9.alloc (.cells #[.string (bs xr.name), .int .i64 xr.place, .bool xr.more, .int .u8 xr.tree.kind, .string (bs xr.tree.text), .int .u8 xr.tree.lo, .int .u8 xr.tree.hi, .int .i64 xr.tree.mn, .int .i64 xr.tree.mx, .slice kp xr.tree.kids.length kc] 27)) := (HB98.out.trans (hb9.mono HB98.out.size)).trans (hb10.mono (HB98.out.trans (hb9.mono HB98.out.size)).size)
                refine (Rules_same (.slice A9 1 c9) (.slice (some ⟨w9.heap.size, 0, none⟩) 1 1) [({ name := xr.name, place := pb, more := xr.more, tree := xr.tree }, sl9)] [(xr, .slice kp xr.tree.kids.length kc)] false _ (by simp) rfl ?_ (hr9.below hb10) (RRow.of_own (World.ownsRow_lit w9 (flatR [(xr, Value.slice kp xr.tree.kids.length kc)]).toArray 1 (Nat.le_refl _) (by unfold maxLen; omega) rfl) ?_)).mono ?_
                · intro i x y hx hy
                  cases i with
                  | zero =>
                    have ex : ({ name := xr.name, place := pb, more := xr.more, tree := xr.tree }, sl9) = x := by simpa using hx
                    have ey : (xr, Value.slice kp xr.tree.kids.length kc) = y := by simpa using hy
                    subst ex ey
                    exact ⟨rfl, rfl, rfl, fun h => by cases h⟩
                  | succ i => simp at hx
                · intro p hp
                  have ep : p = (xr, Value.slice kp xr.tree.kids.length kc) := by simpa using hp
                  subst ep
                  exact ⟨HKX.out _ hb99, HTX.out⟩
                · rintro e w' ⟨he, hb⟩
                  exact ⟨he, hb10.trans (hb.mono hb10.size)⟩
              clear h9 hr9 hb9 hcX HBK8 HOX
              have hcX := HBK9.out.cell
              go_wp2_with (go_at_call 12; refine HRS.out.mono ?_)
              (first | (rintro e w10 ⟨rfl, hb10⟩; have hbb := hb10) | (rintro e w10 rfl hb10; have hbb := hb10))
              have HB710 : Hid (Below w7.heap.size w7 w10) := HB79.out.trans (hbb.mono HB79.out.size)
              clear hb10 hbb hcX
              go_wp2
              go_roundw
              case rel => exact ⟨k + 1, by omega, by go_num, HB710.out⟩
              case measure => simp [intOf]; omega
            · have hz : (60000 : Int) < (bs txt).size := by rw [bs_size]; omega
              generalize bs txt = T at *
              go_wp2
              go_roundw
              case rel => exact ⟨k + 1, by omega, by go_num, HB78.out⟩
              case measure => simp [intOf]; omega
          · obtain ⟨hp0, hno⟩ := printed_not xr.name xr.more xr.tree (by rw [HPR.out]; exact her)
            rw [HPR.out] at hp0
            obtain ⟨rfl, rfl⟩ : txt = [] ∧ er = 2 := by injection hp0 with h1 h2; exact ⟨h1, h2⟩
            clear hp0 her
            rw [show bs [] = (⟨#[]⟩ : ByteArray) from rfl]
            by_cases hnm : xr.name = [114, 45, 49]
            · have hrf : rightB xr.tree = false := by
                rw [hnm] at hno
                simpa [show nameB [114, 45, 49] = true from by decide] using hno
              have hnb : bs xr.name = (⟨#[114, 45, 49]⟩ : ByteArray) := by rw [hnm]; rfl
              rw [hnb] at hcX
              have HRT : Hid (Calls Tryz.prog 13 #[treeV xr.tree (.slice kp xr.tree.kids.length kc)] w8 fun e w' => e = .returned (.bool false) ∧ Below w8.heap.size w8 w') := by
                have := abRight_any xr.tree (.slice kp xr.tree.kids.length kc) w8 (HKX.out _ HB98.out) HTX.out
                rw [hrf] at this
                exact this
              unfold treeV at HRT
              clear hnm hno hrf hnb HPR
              go_wp2_with (go_at_call 13; refine HRT.out.mono ?_)
              (first | (rintro e w10 ⟨rfl, hb10⟩; have hbb := hb10) | (rintro e w10 rfl hb10; have hbb := hb10))
              have HB710 : Hid (Below w7.heap.size w7 w10) := HB78.out.trans (hbb.mono HB78.out.size)
              clear hb10 hbb hcX
              go_wp2
              go_roundw
              case rel => exact ⟨k + 1, by omega, by go_num, HB710.out⟩
              case measure => simp [intOf]; omega
            · have hnb3 : ((bs xr.name).toList == (⟨#[114, 45, 49]⟩ : ByteArray).toList) = false := by
                rw [beq_eq_false_iff_ne]
                intro e
                exact hnm (by simpa [bs, ByteArray.toList_eq] using e)
              have hnb1 : ((bs xr.name).toList == [114, 45, 49]) = false := by
                rw [beq_eq_false_iff_ne]
                intro e
                exact hnm (by simpa [bs, ByteArray.toList_eq] using e)
              have hnb2 : ¬ (bs xr.name).toList = [114, 45, 49] := by
                intro e
                exact hnm (by simpa [bs, ByteArray.toList_eq] using e)
              clear hnm hno HPR
              go_wp2
              go_roundw
              case rel => exact ⟨k + 1, by omega, by go_num, HB78.out⟩
              case measure => simp [intOf]; omega
        · go_wp2_with (go_at_call 8; refine (HWAKE.out _ (HW7.out.trans (hbel.mono HW7.out.size))).mono ?_)
          rintro e w8 ⟨rfl, hb8⟩
          have HW8 : Hid (Below w.heap.size w w8) := (HW7.out.trans (hbel.mono HW7.out.size)).trans (hb8.mono (HW7.out.trans (hbel.mono HW7.out.size)).size)
          clear hb8 hbel
          go_wp2
          go_ret
          exact ⟨rfl, HW8.out⟩
  · have h3' : (300 : Int) < m := by omega
    go_wp2_with (go_at_call 8; refine (HWAKE.out _ HW1.out).mono ?_)
    rintro e w2 ⟨rfl, hb2⟩
    have HW2 : Hid (Below w.heap.size w w2) := HW1.out.trans (hb2.mono HW1.out.size)
    clear hb2
    go_wp2
    go_ret
    exact ⟨rfl, HW2.out⟩
end Go.Proofs.YtodenbimeojgdaaGreatDoor

/-
  AbnfBack answers true, whatever its numbers and its text are. Conditions: the arguments lie in memory; the tables lie where they do; what is printed is within bounds.
-/
namespace Go.Proofs.YtodenbimeojgdaaGreatDoor
open Go.RowKit

set_option maxRecDepth 1000000 in
set_option maxHeartbeats 8000000 in
theorem AbnfBack_many (r : Rl) (sp : Option Addr) (sc : Nat) (UA : Option Addr) (uc n : Nat) (more : Bool) (S : ByteArray) (w : World) (hk : KidsAt w (· < w.heap.size) r.tree.kids (.slice sp r.tree.kids.length sc)) (hn : 200 < n) (hlv : LeavesAt w) (hpw : PowAt w) :
    Calls Tryz.prog 4 #[.agg (ruleCells r (.slice sp r.tree.kids.length sc)).toArray, .slice UA n uc, .bool more, .string S] w fun e w' => e = .returned (.bool true) ∧ Below w.heap.size w w' := by
  have hn' : (200 : Int) < n := by omega
  have HWAKE : Hid (∀ W, Below w.heap.size w W → Calls Tryz.prog 8 #[] W fun e w' => e = .returned (.bool true) ∧ Below W.heap.size W w') := fun W hW => awake_any W (hlv.below hW hlv.lt) (hpw.below hW hpw.lt)
  have HN : Hid (∀ W, Below w.heap.size w W → Calls Tryz.prog 7 #[treeV r.tree (.slice sp r.tree.kids.length sc), .int .i64 300] W fun e w2 => NodesOut 300 e ∧ Below W.heap.size W w2) := fun W hW => Nodes_any r.tree _ W (hk.later hW.size (fun b hl _ => ⟨Nat.lt_of_lt_of_le hl hW.size, hW.block b hl⟩))
  clear hk hlv hpw
  have HB1 : Hid (Below w.heap.size w (w.alloc (.cells #[.string (bs r.name), .int .i64 r.place, .bool r.more, .int .u8 r.tree.kind, .string (bs r.tree.text), .int .u8 r.tree.lo, .int .u8 r.tree.hi, .int .i64 r.tree.mn, .int .i64 r.tree.mx, .slice sp r.tree.kids.length sc] 27))) := (Below.refl _ _).alloc (Nat.le_refl _) _
  unfold treeV at HN
  unfold ruleCells
  go_enter Tryz.func4, Tryz.ntmps4
  go_wp2_with (go_at_call 7; refine (HN.out _ HB1.out).mono ?_)
  (first | (rintro e w1 ⟨m, rfl, hm1, hm2⟩ hb0; have hb1 := hb0) | (rintro e w1 ⟨⟨m, rfl, hm1, hm2⟩, hb0⟩; have hb1 := hb0))
  have HW1 : Hid (Below w.heap.size w w1) := HB1.out.trans (hb1.mono (by first | exact HB1.out.size | omega))
  clear hb1 hb0 HB1 HN
  by_cases h3 : m ≤ 300
  · have h3' : ¬ (300 : Int) < m := by omega
    go_wp2_with (go_at_call 8; refine (HWAKE.out _ HW1.out).mono ?_)
    (first | (rintro e w2 ⟨rfl, hb0⟩; have hb2 := hb0) | (rintro e w2 rfl hb0; have hb2 := hb0))
    have HW2 : Hid (Below w.heap.size w w2) := HW1.out.trans (hb2.mono HW1.out.size)
    clear hb2 hb0
    go_wp2
    go_ret
    exact ⟨rfl, HW2.out⟩
  · have h3' : (300 : Int) < m := by omega
    go_wp2_with (go_at_call 8; refine (HWAKE.out _ HW1.out).mono ?_)
    (first | (rintro e w2 ⟨rfl, hb0⟩; have hb2 := hb0) | (rintro e w2 rfl hb0; have hb2 := hb0))
    have HW2 : Hid (Below w.heap.size w w2) := HW1.out.trans (hb2.mono HW1.out.size)
    clear hb2 hb0
    go_wp2
    go_ret
    exact ⟨rfl, HW2.out⟩

set_option maxRecDepth 1000000 in
set_option maxHeartbeats 8000000 in
theorem AbnfBack_long (r : Rl) (sp : Option Addr) (sc : Nat) (UA : Option Addr) (uc n : Nat) (more : Bool) (S : ByteArray) (w : World) (hk : KidsAt w (· < w.heap.size) r.tree.kids (.slice sp r.tree.kids.length sc)) (hn : n ≤ 200) (hs : 2000 < S.size) (hlv : LeavesAt w) (hpw : PowAt w) :
    Calls Tryz.prog 4 #[.agg (ruleCells r (.slice sp r.tree.kids.length sc)).toArray, .slice UA n uc, .bool more, .string S] w fun e w' => e = .returned (.bool true) ∧ Below w.heap.size w w' := by
  have hn' : ¬ (200 : Int) < n := by omega
  have hs' : (2000 : Int) < S.size := by omega
  have HWAKE : Hid (∀ W, Below w.heap.size w W → Calls Tryz.prog 8 #[] W fun e w' => e = .returned (.bool true) ∧ Below W.heap.size W w') := fun W hW => awake_any W (hlv.below hW hlv.lt) (hpw.below hW hpw.lt)
  have HN : Hid (∀ W, Below w.heap.size w W → Calls Tryz.prog 7 #[treeV r.tree (.slice sp r.tree.kids.length sc), .int .i64 300] W fun e w2 => NodesOut 300 e ∧ Below W.heap.size W w2) := fun W hW => Nodes_any r.tree _ W (hk.later hW.size (fun b hl _ => ⟨Nat.lt_of_lt_of_le hl hW.size, hW.block b hl⟩))
  clear hk hlv hpw
  have HB1 : Hid (Below w.heap.size w (w.alloc (.cells #[.string (bs r.name), .int .i64 r.place, .bool r.more, .int .u8 r.tree.kind, .string (bs r.tree.text), .int .u8 r.tree.lo, .int .u8 r.tree.hi, .int .i64 r.tree.mn, .int .i64 r.tree.mx, .slice sp r.tree.kids.length sc] 27))) := (Below.refl _ _).alloc (Nat.le_refl _) _
  unfold treeV at HN
  unfold ruleCells
  go_enter Tryz.func4, Tryz.ntmps4
  go_wp2_with (go_at_call 7; refine (HN.out _ HB1.out).mono ?_)
  (first | (rintro e w1 ⟨m, rfl, hm1, hm2⟩ hb0; have hb1 := hb0) | (rintro e w1 ⟨⟨m, rfl, hm1, hm2⟩, hb0⟩; have hb1 := hb0))
  have HW1 : Hid (Below w.heap.size w w1) := HB1.out.trans (hb1.mono (by first | exact HB1.out.size | omega))
  clear hb1 hb0 HB1 HN
  by_cases h3 : m ≤ 300
  · have h3' : ¬ (300 : Int) < m := by omega
    go_wp2_with (go_at_call 8; refine (HWAKE.out _ HW1.out).mono ?_)
    (first | (rintro e w2 ⟨rfl, hb0⟩; have hb2 := hb0) | (rintro e w2 rfl hb0; have hb2 := hb0))
    have HW2 : Hid (Below w.heap.size w w2) := HW1.out.trans (hb2.mono HW1.out.size)
    clear hb2 hb0
    go_wp2
    go_ret
    exact ⟨rfl, HW2.out⟩
  · have h3' : (300 : Int) < m := by omega
    go_wp2_with (go_at_call 8; refine (HWAKE.out _ HW1.out).mono ?_)
    (first | (rintro e w2 ⟨rfl, hb0⟩; have hb2 := hb0) | (rintro e w2 rfl hb0; have hb2 := hb0))
    have HW2 : Hid (Below w.heap.size w w2) := HW1.out.trans (hb2.mono HW1.out.size)
    clear hb2 hb0
    go_wp2
    go_ret
    exact ⟨rfl, HW2.out⟩

theorem AbnfBack_any (r : Rl) (sp : Option Addr) (sc : Nat) (UA : Option Addr) (uc : Nat) (u : List Nat) (more : Bool) (l : List UInt8) (w : World) (hk : KidsAt w (· < w.heap.size) r.tree.kids (.slice sp r.tree.kids.length sc)) (hf : Fit r) (htx : r.tree.text.length ≤ maxLen) (hu : NumsAt w UA u) (hlv : LeavesAt w) (hpw : PowAt w) :
    Calls Tryz.prog 4 #[.agg (ruleCells r (.slice sp r.tree.kids.length sc)).toArray, .slice UA u.length uc, .bool more, .string (bs l)] w fun e w' => e = .returned (.bool true) ∧ Below w.heap.size w w' := by
  by_cases hu2 : u.length ≤ 200
  · by_cases hl2 : l.length ≤ 2000
    · exact AbnfBack_ok r sp sc UA uc u more l w hk hf htx hu hu2 hl2 hlv hpw
    · exact AbnfBack_long r sp sc UA uc u.length more (bs l) w hk hu2 (by rw [bs_size]; omega) hlv hpw
  · exact AbnfBack_many r sp sc UA uc u.length more (bs l) w hk (by omega) hlv hpw
end Go.Proofs.YtodenbimeojgdaaGreatDoor

/-
  AbnfBack answers true, and leaves its arguments as they were, for every input of bulk at most 1048576 (the form 'Upto'): the row, and the tied card. Conditions: that bound; the listed tables as the program's text lays them (the card ties them).
-/
namespace Go.Proofs.YtodenbimeojgdaaGreatDoor.abnfBack
open Go.ChangeShapes Go.WideShapes Go.ChangeAt Go.RowKit
open Go.ChangeMaps (open_string shut_string)

theorem own : ownKnob Tryz.prog.godebug = none := by kernel_rfl
theorem laidOut : laidOutB Tryz.prog = true := by kernel_rfl
theorem gLeaves : Tryz.prog.globalNamed "franking/abnf.leaves" = some 3 := by kernel_rfl
theorem gPow : Tryz.prog.globalNamed "internal/strconv.uint64pow10" = some 4 := by kernel_rfl
theorem leavesAt_of {W : World} (h : Lib.TabIs Tryz.prog W "franking/abnf.leaves" .u8 leafTab) : LeavesAt W := by
  intro i k hk
  obtain ⟨hi, e⟩ := List.getElem?_eq_some_iff.1 hk
  have := h.cell gLeaves i hi
  rw [List.getD_eq_getElem?_getD, hk] at this
  exact this
theorem tabs_of_laid {W : World} (h : laidMetH Tryz.prog Rows.abnfBackUptoRow.laid W) : Lib.TabIs Tryz.prog W "franking/abnf.leaves" .u8 leafTab ∧ Lib.TabIs Tryz.prog W "internal/strconv.uint64pow10" .u64 Lib.pow10Tab := by
  rw [MakeChecks.laidMetH_plain _ _ _ (by kernel_rfl)] at h
  have h' : laidMet Tryz.prog [("math/bits.deBruijn32tab", Rows.laid_math_bits_deBruijn32tab), ("math/bits.deBruijn64tab", Rows.laid_math_bits_deBruijn64tab), ("internal/strconv.uint64pow10", Rows.laid_internal_strconv_uint64pow10), ("franking/abnf.leaves", Rows.laid_franking_abnf_leaves)] W := h
  have h3 := h'.tail.tail
  have h4 := h3.tail
  exact ⟨Lib.tabIs_of_head (zs := leafTab) gLeaves (t := 168) (by kernel_rfl) Tryz.underlying168 Tryz.underlying5 (by kernel_rfl) (by kernel_rfl) h4, Lib.tabIs_of_head (zs := Lib.pow10Tab) gPow (t := 180) (by kernel_rfl) Tryz.underlying180 Tryz.underlying137 (by kernel_rfl) (by kernel_rfl) h3⟩
def IsRow (k : IntKind) (w : World) (a : Option Addr) (len cap : Nat) (zs : List Int) : Prop :=
  (a = none ∧ len = 0 ∧ cap = 0 ∧ zs = []) ∨
  ∃ x, a = some x ∧ len ≤ cap ∧ cap ≤ maxLen ∧ zs.length = cap ∧ (∀ i, i < zs.length → w.cell? (x.add i) = some (.int k (zs.getD i 0))) ∧ ∀ n ∈ zs, (Lit.int k n).wf = true
theorem cell_lt {w : World} {b off : Nat} {v : Value} (h : w.cell? ⟨b, off, none⟩ = some v) : b < w.heap.size := by
  rcases Nat.lt_or_ge b w.heap.size with hlt | hge
  · exact hlt
  · simp [World.cell?, Array.getElem?_eq_none hge] at h
theorem nums_of {w : World} {a : Option Addr} {len cap : Nat} {zs : List Int} (h : IsRow .u16 w a len cap zs) : ∃ u : List Nat, u.length = len ∧ NumsAt w a u := by
  rcases h with ⟨rfl, rfl, rfl, rfl⟩ | ⟨x, rfl, hl, hm, hz, hc, hw⟩
  · exact ⟨[], rfl, ⟨fun i n hi => by simp at hi, fun n hn => by cases hn⟩⟩
  · have hlen : (zs.take len).length = len := by rw [List.length_take]; omega
    refine ⟨(zs.take len).map Int.toNat, by rw [List.length_map, hlen], ⟨fun i n hi => ?_, fun n hn => ?_⟩⟩
    · rw [List.getElem?_map, Option.map_eq_some_iff] at hi
      obtain ⟨z, hz2, rfl⟩ := hi
      obtain ⟨hi2, ez⟩ := List.getElem?_eq_some_iff.1 hz2
      rw [hlen] at hi2
      have hzm : z ∈ zs := List.mem_of_mem_take (List.mem_of_getElem? hz2)
      have hbd := bounds_u16 (hw z hzm)
      obtain ⟨b, off, rfl, hc2⟩ := ints_at hc (by omega)
      have hcell := hc2 i (by omega)
      have hd : zs.getD i 0 = z := by
        rw [List.getD_eq_getElem?_getD]
        rw [List.getElem?_take, if_pos hi2] at hz2
        rw [hz2]
        rfl
      rw [hd] at hcell
      refine ⟨b, off, rfl, cell_lt hcell, ?_⟩
      rw [hcell, Int.toNat_of_nonneg hbd.1]
    · obtain ⟨z, hz2, rfl⟩ := List.mem_map.1 hn
      have hbd := bounds_u16 (hw z (List.mem_of_mem_take hz2))
      omega


abbrev inp : Array Value := #[.agg #[.string .empty, .int .i64 0, .bool false, .int .u8 0, .string .empty, .int .u8 0, .int .u8 0, .int .i64 0, .int .i64 0, .slice none 0 0], .slice none 0 0, .bool false, .string .empty]
theorem reads (os : Os) {H : Type} (enc : TypeId × Value → H) : ∃ places, DataW.whole enc Tryz.prog ((World.laidAll Tryz.prog os Rows.abnfBackUptoRow.laid).forCall (fun _ _ => 0) ⟨#[], inp, []⟩).memory Tryz.f4.params.toList Rows.abnfBackSpec.vars false inp.toList 8 = some ([.agg [.lit (.string []), .lit (.int .i64 0), .lit (.bool false), .agg [.lit (.int .u8 0), .lit (.string []), .lit (.int .u8 0), .lit (.int .u8 0), .lit (.int .i64 0), .lit (.int .i64 0), .nil]], .nil, .lit (.bool false), .lit (.string [])], [], places) :=
  ⟨[], by kernel_rfl⟩

set_option maxRecDepth 100000 in
theorem contract (H : Type) (enc : TypeId × Value → H) (W : World) (base : Nat) (args : Array Value) (ds gs : List (DataW H)) (before : List MemPlace)
    (hval0 : ∀ (j : Nat) t v, Tryz.f4.params[j]? = some t → args[j]? = some v → Value.okWide Tryz.prog W .any base t v)
    (hW : DataW.Whole enc Tryz.prog Tryz.f4.params.toList Rows.abnfBackSpec.vars false W args.toList ds gs before) (hk : Rows.uptoSmall H (ds ++ gs) = true) (hL : laidMetH Tryz.prog Rows.abnfBackUptoRow.laid W) :
    Calls Tryz.prog 4 args W fun e W' => ∃ v, e = .returned v ∧ Rows.abnfBackSpec.post enc Tryz.prog Tryz.f4 false true false false W args v W' := by
  have hval : ∀ (j : Nat) t v, Tryz.f4.params[j]? = some t → args[j]? = some v → Value.okWide Tryz.prog W .any base t v := hval0
  have hW' := hW
  obtain ⟨p, q, hA0, hV, rfl, _, _⟩ := hW
  have hA : DataW.TrodAll enc Tryz.prog W 0 (fun _ => true) true Tryz.f4.params.toList args.toList ds p := hA0
  rw [Tryz.params4] at hA hval
  obtain ⟨v0, vs0, d0, ds0, p0, q0, hargs, rfl, rfl, h0, r0⟩ := trodAll_cons hA
  obtain ⟨v1, vs1, d1, ds1, p1, q1, rfl, rfl, rfl, h1, r1⟩ := trodAll_cons r0
  obtain ⟨v2, vs2, d2, ds2, p2, q2, rfl, rfl, rfl, h2, r2⟩ := trodAll_cons r1
  obtain ⟨v3, vs3, d3, ds3, p3, q3, rfl, rfl, rfl, h3, r3⟩ := trodAll_cons r2
  obtain ⟨rfl, rfl, rfl⟩ := trodAll_nil r3
  obtain rfl : args = #[v0, v1, v2, v3] := by cases args; simp_all
  obtain ⟨rfl, rfl⟩ := trodVars_none hV
  obtain ⟨cs0, rfl, _⟩ := okWide_struct Tryz.underlying27 (hval 0 27 v0 rfl rfl)
  have k0 := h0
  have lt0 : ∀ x ∈ p0, x.block < W.heap.size := by obtain ⟨m, hm⟩ := k0; exact DataW.trod_lt m _ _ _ hm
  obtain ⟨r, sl, D, ecs, hop, hbulk, hnl⟩ : ∃ (r : Rl) (sl : Value) (D : DataW H), cs0.toList = ruleCells r sl ∧ Opened W r.tree sl D ∧ r.name.length + Rows.uptoBulk D ≤ Rows.uptoBulk d0 ∧ r.name.length ≤ maxLen := by
    obtain ⟨fuel, hf⟩ := h0
    have hf : DataW.trod enc Tryz.prog W 0 (fun _ => true) true fuel 27 cs0.toList = some (d0, p0) := hf
    exact open_rule hf
  obtain ⟨sp, sc, rfl, _⟩ := hop.kids.form
  obtain rfl : cs0 = (ruleCells r (.slice sp r.tree.kids.length sc)).toArray := by rw [← ecs]
  obtain ⟨a1, len1, cap1, rfl⟩ := okWide_slice Tryz.underlying43 (hval 1 43 v1 rfl rfl)
  have k1 := h1
  have lt1 : ∀ x ∈ p1, x.block < W.heap.size := by obtain ⟨m, hm⟩ := k1; exact DataW.trod_lt m _ _ _ hm
  obtain ⟨z1, w1⟩ : ∃ zs, IsRow .u16 W a1 len1 cap1 zs := by
    obtain ⟨fuel, hf⟩ := h1
    rcases open_ints Tryz.underlying43 Tryz.underlying159 (by kernel_rfl) hf with ⟨hcs, _⟩ | ⟨x, l, c, zs, hcs, _, hl, hm, hz, _, hcell, hwz⟩
    · simp [Value.cells] at hcs
      obtain ⟨rfl, rfl, rfl⟩ := hcs
      exact ⟨[], .inl ⟨rfl, rfl, rfl, rfl⟩⟩
    · simp [Value.cells] at hcs
      obtain ⟨rfl, rfl, rfl⟩ := hcs
      exact ⟨zs, .inr ⟨_, rfl, hl, hm, by simpa using hz, hcell, hwz⟩⟩
  obtain ⟨more, rfl, rfl, rfl⟩ := open_bool Tryz.underlying4 (hval 2 4 v2 rfl rfl) h2
  obtain ⟨s, rfl, rfl, rfl, hmax⟩ := open_string Tryz.underlying9 (hval 3 9 v3 rfl rfl) h3
  obtain ⟨u, rfl, hu⟩ := nums_of w1
  obtain ⟨ht1, ht2⟩ := tabs_of_laid hL
  clear hA0 hval0
  have hb : Rows.uptoBulkAll ([d0, d1, .lit (.bool more), .lit (.string s.data.toList)] ++ []) ≤ 1048576 := of_decide_eq_true hk
  simp only [List.append_nil, Rows.uptoBulkAll] at hb
  have hfit : Fit r := ⟨hop.bytes 100, hop.texts 100, hnl, Nat.le_trans (printed_len r.name r.more r.tree (Rows.uptoBulk D) (hop.mass 100) (by omega)) (by decide)⟩
  have hbs : bs s.data.toList = s := by cases s; simp [bs]
  have hc := AbnfBack_any r sp sc a1 cap1 u more s.data.toList W hop.kids hfit hop.text hu (leavesAt_of ht1) ht2
  rw [hbs] at hc
  refine hc.mono fun e W' ⟨he, bel⟩ => ?_
  subst he
  exact ⟨_, rfl, _, _, _, [], _, [], hW', trodAll_mk1 (shut_bool Tryz.underlying4 _), (trodAll_cons_mk (Below.trod laidOut (by kernel_rfl) (of_decide_eq_true (by kernel_rfl)) k0 bel lt0) (trodAll_cons_mk (Below.trod laidOut (by kernel_rfl) (of_decide_eq_true (by kernel_rfl)) k1 bel lt1) (trodAll_cons_mk (shut_bool Tryz.underlying4 _) (trodAll_cons_mk (shut_string Tryz.underlying9 hmax) trodAll_mk0)))), rfl, bel.frame _, fun h => by cases h⟩

set_option maxRecDepth 100000 in
theorem lifted (os : Os) (started : os.Started) (H : Type) (enc : TypeId × Value → H) (F : Stop.Interp) :
    ReturnsInHanded {} Tryz.checked os 4 .any ((Rows.OpenSpec.upto Rows.abnfBackSpec).preRow enc Tryz.prog Tryz.f4 Rows.abnfBackUptoRow.domain false Rows.abnfBackUptoRow.laid) (((Rows.OpenSpec.upto Rows.abnfBackSpec).at F).post enc Tryz.prog Tryz.f4 false true false false) := by
  obtain ⟨places, hx⟩ := reads os enc
  have hok : Input.okWideB Tryz.prog ((World.laidAll Tryz.prog os Rows.abnfBackUptoRow.laid).forCall (fun _ _ => 0) ⟨#[], inp, []⟩) 4 ⟨#[], inp, []⟩ = true := by kernel_rfl
  refine returnsInHanded_of_row (C := Tryz.checked) (s := Rows.OpenSpec.upto Rows.abnfBackSpec) own started (by kernel_rfl) Tryz.func4
    ⟨World.laidAll Tryz.prog os Rows.abnfBackUptoRow.laid, fun _ _ => 0, ⟨#[], inp, []⟩, World.laidAll_os _ _ _, World.shaped_of_ZipB (by kernel_rfl) (by kernel_rfl), (Input.okWide_of_okWideB (base := 0) hok).1, (Input.okWide_of_okWideB hok).2,
      OpenSpec.preRow_of_cond 8 hx (by kernel_rfl) (fun k hk => by cases hk; kernel_rfl) (by kernel_rfl) (by rw [MakeChecks.laidMetH_plain _ _ _ (by kernel_rfl)]; exact laidMet_laidAll _ (by kernel_rfl) (by kernel_rfl)), by
        simp only [Assume.holds]
        exact ⟨by simp, by simp, fun _ => Modest.zero, by simp, by simp⟩⟩ ?_
  intro W base args ds gs before hval hW _ hcond _ hL _ _
  exact contract H enc W base args ds gs before hval hW (hcond _ rfl) hL

theorem holds : Rows.AbnfBackUptoSaid :=
  OpenClaim.holds_of_cond 4 Tryz.f4 rfl rfl rfl rfl rfl rfl rfl ⟨rfl, rfl, rfl, rfl, rfl⟩ rfl rfl rfl rfl rfl (by kernel_rfl) Tryz.func4 (by kernel_rfl)
    (of_decide_eq_true (by kernel_rfl)) (by unfold Func.isWrapper; first | (rw [if_pos (by decide +kernel)]; kernel_rfl) | (rw [if_neg (by decide +kernel)]; exact ⟨rfl, rfl⟩))
    (fun os started H enc _ F => by rw [OpenClaim.pre_eq_preRow]; exact lifted os started H enc F)
theorem card_holds : Rows.AbnfBackUptoCardSaid :=
  Claim7.holds_tied_plain_at .later [] [.data, .data, .data, .data] true Rows.abnfBackUptoCard.stood.harness false holds (fun _ h => by cases h) (by kernel_rfl) (fun _ h => by cases h) abnfBackUpto_row_tie rfl ⟨rfl, rfl⟩ (by kernel_rfl) rfl
    (fun f fn hf hfn => by
      obtain rfl : f = 4 := Option.some.inj ((show Tryz.prog.funcNamed "franking/frankinglaw02.AbnfBack" = some 4 by kernel_rfl).symm.trans hf) |>.symm
      obtain rfl : fn = Tryz.f4 := (Option.some.inj (Tryz.func4.symm.trans hfn)).symm
      exact ⟨by kernel_rfl, fun j t ht => by
        rw [Tryz.params4] at ht
        have hm : t ∈ [27, 43, 4, 9] := by simpa using Array.mem_of_getElem? ht
        have hall : ([27, 43, 4, 9].all fun u => !Tryz.prog.wantsStandIn u) = true := by kernel_rfl
        exact (show Tryz.prog.wantsStandIn t = false by simpa using List.all_eq_true.1 hall t hm)⟩)
    (by kernel_rfl)
end Go.Proofs.YtodenbimeojgdaaGreatDoor.abnfBack
