/-
  The contract of (*nfa.walk).tag: the least tag where a machine stands. Conditions: places that are marked are states; tags from 0 on; the library's table.
-/
import Derived.Test.YtdckjjkaoecgaaaDoorNwE
import Derived.Test.YtdckjjkaoecgaaaDoorNbV
import Derived.RangeFuncBox
import Derived.RangeFuncLeaves
import Derived.RangeFuncNested
import Derived.RangeFuncBound
import Derived.Shelf.RegionOpen
import Derived.OwnWalkIn
import Derived.TacticsInMore
namespace Go.Proofs.YtdckjjkaoecgaaaDoor
open Go.RowKit Go.Shelf

attribute [local go_sem] Oper.semAt_some

/-- an operation that is not run yields no word -/
theorem yielded_undef : yielded.match_1 (fun _ => Option Bool) (some undef) (fun b => some b) (fun _ => none) = none := rfl
attribute [local go_sem] yielded_undef
/-- one place more -/
theorem TagOf.more {st : List NS} {pre : List Nat} {t : Int} (h : TagOf st (· ∈ pre) t) {p : Nat} {s : NS} (hs : st[p]? = some s) (hp : ∀ r ∈ st, r.kind = 0 → 0 ≤ r.tag) :
    (¬ s.kind = 0 → TagOf st (· ∈ pre ++ [p]) t) ∧ (s.kind = 0 → t = -1 → TagOf st (· ∈ pre ++ [p]) s.tag) ∧ (s.kind = 0 → s.tag < t → TagOf st (· ∈ pre ++ [p]) s.tag) ∧ (s.kind = 0 → ¬ t = -1 → ¬ s.tag < t → TagOf st (· ∈ pre ++ [p]) t) := by
  have mem : ∀ {q : Nat}, q ∈ pre ++ [p] → q ∈ pre ∨ q = p := fun hq => by simpa using hq
  have inj : ∀ {r : NS}, st[p]? = some r → r = s := fun hr => by rw [hs] at hr; injection hr with hr; exact hr.symm
  refine ⟨fun hk => ?_, fun hk ht1 => ?_, fun hk hlt => ?_, fun hk ht1 hlt => ?_⟩
  · rcases h with ⟨h1, h2⟩ | ⟨⟨q, r, h1, h2, h3, h4⟩, h5⟩
    · refine .inl ⟨h1, fun q r hq hr => ?_⟩
      rcases mem hq with hq | rfl
      · exact h2 q r hq hr
      · rw [inj hr]; exact hk
    · refine .inr ⟨⟨q, r, by simp [h1], h2, h3, h4⟩, fun q r hq hr hz => ?_⟩
      rcases mem hq with hq | rfl
      · exact h5 q r hq hr hz
      · rw [inj hr] at hz; exact absurd hz hk
  · refine .inr ⟨⟨p, s, by simp, hs, hk, rfl⟩, fun q r hq hr hz => ?_⟩
    rcases mem hq with hq | rfl
    · rcases h with ⟨h1, h2⟩ | ⟨⟨q', r', h1, h2, h3, h4⟩, h5⟩
      · exact absurd hz (h2 q r hq hr)
      · have := hp r' (List.mem_of_getElem? h2) h3
        omega
    · rw [inj hr]; exact Int.le_refl _
  · refine .inr ⟨⟨p, s, by simp, hs, hk, rfl⟩, fun q r hq hr hz => ?_⟩
    rcases mem hq with hq | rfl
    · rcases h with ⟨h1, h2⟩ | ⟨_, h5⟩
      · exact absurd hz (h2 q r hq hr)
      · have := h5 q r hq hr hz; omega
    · rw [inj hr]; exact Int.le_refl _
  · rcases h with ⟨h1, h2⟩ | ⟨⟨q, r, h1, h2, h3, h4⟩, h5⟩
    · exact absurd h1 ht1
    · refine .inr ⟨⟨q, r, by simp [h1], h2, h3, h4⟩, fun q r hq hr hz => ?_⟩
      rcases mem hq with hq | rfl
      · exact h5 q r hq hr hz
      · rw [inj hr]; omega
set_option maxRecDepth 100000 in
set_option maxHeartbeats 8000000 in
theorem wtag_any (B b : Nat) (sa : Option Addr) (sc h x m : Nat) (av : Value) (ws wn : List Nat) (st : List NS) (sn : Nat) (hsn : st.length = sn) (w : World) (hk : Wk w B b sa sn sc h x m av ws wn) (hB : B ≤ w.heap.size) (hns : NsIn w B sa st) (hwo : WordsOk ws) (hwl : ws.length = m) (hm : m ≤ 400) (hin : ∀ p, bitAt ws p = true → p < sn) (htg : ∀ s ∈ st, s.kind = 0 → 0 ≤ s.tag) (hT : TzAt w) (htb : 0 < w.heap.size) :
    Calls Tryd.prog 36 #[.pointer (some ⟨b, 0, none⟩)] w fun e w' => ∃ t : Int, e = .returned (.int .i64 t) ∧ TagOf st (fun p => bitAt ws p = true) t ∧ Below w.heap.size w w' := by
  have HK := Lib.hid hk
  have HNS := Lib.hid hns
  have HIN := Lib.hid hin
  have HTG := Lib.hid htg
  have c1 := hk.blk.cell 1
  simp at c1
  refine (callsIn_wide (n := 6)).1 ?_
  refine callsIn_of_wp_marks Tryd.func36 rfl trivial ?_ rfl
  simp only [Tryd.ntmps36, List.size_toArray, List.length_cons, List.length_nil, Nat.reduceAdd, Nat.reduceSub, Array.replicate_succ, Array.replicate_zero, List.push_toArray, List.append_toArray, List.nil_append, List.cons_append]
  have c1w := ((hk.alloc (.cells #[.pointer (some ⟨b, 0, none⟩)] 69)).alloc (.cells #[.int .i64 (-1)] 3)).blk.cell 1
  simp at c1w
  obtain ⟨W2, hW2⟩ : ∃ W2, W2 = (((w.alloc (.cells #[.pointer (some ⟨b, 0, none⟩)] 69)).alloc (.cells #[.int .i64 (-1)] 3)).alloc (.cells #[.slice (some ⟨h, 0, none⟩) m m] 90)) := ⟨_, rfl⟩
  have HSZ : Hid (W2.heap.size = w.heap.size + 3) := by rw [hW2]; show _ = _; simp
  have HK2 : Hid (Wk W2 B b sa sn sc h x m av ws wn) := by rw [hW2]; exact ((hk.alloc _).alloc _).alloc _
  have HL2 : Hid (Below w.heap.size w W2) := by rw [hW2]; exact (((Below.refl _ _).alloc (Nat.le_refl _) _).alloc (by simp) _).alloc (by simp; omega) _
  have HBW : Hid (Blk W2 w.heap.size 69 #[.pointer (some ⟨b, 0, none⟩)]) := by rw [hW2]; exact ((Blk.new _ _ _).alloc _).alloc _
  have HBT : Hid (Blk W2 (w.heap.size + 1) 3 #[.int .i64 (-1)]) := by rw [hW2]; exact (Blk.new_at (w.alloc _) _ _ _ (by simp)).alloc _
  have HBX : Hid (Blk W2 (w.heap.size + 1 + 1) 90 #[.slice (some ⟨h, 0, none⟩) m m]) := by rw [hW2]; exact Blk.new_at _ _ _ _ (by simp)
  have HT2 := Lib.hid (hT.below htb HL2.out)
  have HB := Lib.hid hB
  have HWO : Hid (WordsOk ws ∧ ws.length = m) := ⟨hwo, hwl⟩
  have HSN := Lib.hid hsn
  have HTB : Hid (0 < w.heap.size) := htb
  have hbl := hk.blk.lt
  have hhl := hk.here.lt
  have hseq := mall_seq 5 (by omega) (w.heap.size + 1 + 1) h ws hwo m hwl (by omega) m (fun j => j ≠ h ∧ j ≠ 0) W2 HBX.out HK2.out.here (by simp) HT2.out (by rw [HSZ.out]; have := HTB.out; omega) (by simp)
  clear hk hB hns hwo hwl hin htg hT htb hsn
  gi_wp2_with (refine ⟨trivial, ?_⟩; gi_at_call 57; refine (callsIn_wide.2 (mall_any (some ⟨h, 0, none⟩) m m _)).mono ?_; rintro e w3 ⟨rfl, rfl⟩)
  rw [← hW2]
  clear hW2 c1 c1w
  refine wpIn_rangeFunc_ownG rfl (by omega) (gf := 69) (lb := #[.pointer (some ⟨w.heap.size + 1 + 1, 0, none⟩)]) rfl trivial (enters_of Tryd.func69 (by kernel_rfl) rfl)
    hseq (fun h k => KeepX.trans h k) (fun W l o o' _ hl ho _ => KeepX.put hl ho) (Below.refl _ _) (fun _ => rfl)
    (fun (pre : List (MkP ws)) (W : World) => ∃ t : Int, TagOf st (· ∈ pre.map (fun (z : MkP ws) => z.1)) t ∧ Blk W (w.heap.size + 1) 3 #[.int .i64 t] ∧ Blk W w.heap.size 69 #[.pointer (some ⟨b, 0, none⟩)] ∧ Below w.heap.size w W)
    (fun _ _ _ => False)
    (fun s A B' row hs hg hr => by
      obtain ⟨t, h1, h2, h3, h4⟩ := hs
      exact ⟨t, h1, blk_beside h2 hg (fun r e => (hr r e).2), blk_beside h3 hg (fun r e => (hr r e).2), h4.grown hg (by have := h2.lt; omega) (fun r e => by have h5 := (hr r e).1; rw [HSZ.out] at h5; omega)⟩)
    (fun _ _ _ _ _ hs _ _ => hs)
    ⟨-1, .inl ⟨rfl, fun p s hp => by cases hp⟩, HBT.out, HBW.out, HL2.out⟩
    (fun (y : MkP ws) => { tmps := #[.pointer (some ⟨b, 0, none⟩), .pointer (some ⟨w.heap.size, 0, none⟩), .int .i64 0, .pointer (some ⟨w.heap.size + 1, 0, none⟩), .int .i64 (y.1 : Int), undef, .pointer (some ⟨b, 0, none⟩), .pointer (some ⟨b, 0, none⟩), .pointer (some ⟨b, 1, none⟩), .slice (some ⟨h, 0, none⟩) m m, .func (.func 69) #[] #[.pointer (some ⟨w.heap.size + 1 + 1, 0, none⟩)], .int .i64 (y.1 : Int), undef, undef, undef, undef, undef, undef, undef, undef, undef, undef, undef, undef, undef, undef, undef, undef, undef, undef, undef, undef, undef, undef, undef, undef, undef, undef, undef, undef], defers := [] }) ?assign ?body ?done ?stop
  case assign =>
    intro l y W K hK
    gi_wp2
    exact hK
  case stop =>
    intro D c pre W _ _ h
    exact h.elim
  case body =>
    rintro l2 pre y W ⟨t, ht, hbt, hbw, hlow⟩ hlt
    obtain ⟨p, hp⟩ := y
    have hps := HIN.out p hp
    obtain ⟨s, hs⟩ : ∃ s, st[p]? = some s := ⟨_, List.getElem?_eq_getElem (by rw [HSN.out]; exact hps)⟩
    obtain ⟨g2, off2, e2, hg2, hcs⟩ := HNS.out p s hs
    have hmore := ht.more hs HTG.out
    have HM := Lib.hid hmore
    have HBT3 := Lib.hid hbt
    have HBW3 := Lib.hid hbw
    have HL3 := Lib.hid hlow
    have w0 := hbw.cell 0
    have t0 := hbt.cell 0
    have f0 := hbt.frozen 0
    have k0 := (hlow.cell (p := ⟨b, 0, none⟩) hbl).trans (HK.out.blk.cell 0)
    simp at w0 t0 k0
    have hcw : ∀ j u, (nsCells s)[j]? = some u → W.cell? ⟨g2, off2 + p * 8 + j, none⟩ = some u := fun j u hj => (hlow.cell (p := ⟨g2, off2 + p * 8 + j, none⟩) (by show g2 < _; have := HB.out; omega)).trans (hcs j u hj)
    have a0 := hcw 0 _ rfl
    have a7 := hcw 7 _ rfl
    rw [Nat.add_zero] at a0
    subst e2
    have hps2 : (p : Int) < (sn : Int) := by omega
    have hp0 : (0 : Int) ≤ (p : Int) := by omega
    have hkn : ∀ u, KeepsOthers W (W.drew.setCell ⟨w.heap.size + 1, 0, none⟩ u) := fun u => (KeepsOthers.drew W).trans (KeepsOthers.setCell _ _ _)
    clear hseq hmore hbt hbw hcw hs
    have w0d : W.drew.cell? ⟨w.heap.size, 0, none⟩ = _ := w0
    have t0d : W.drew.cell? ⟨w.heap.size + 1, 0, none⟩ = _ := t0
    have a0d : W.drew.cell? ⟨g2, off2 + p * 8, none⟩ = _ := a0
    have a7d : W.drew.cell? ⟨g2, off2 + p * 8 + 7, none⟩ = _ := a7
    have f0d : W.drew.frozen? ⟨w.heap.size + 1, 0, none⟩ = false := f0
    have HDONE : Hid (TagOf st (· ∈ pre.map (fun (z : MkP ws) => z.1) ++ [p]) t → KeepsFrom W2.heap.size W W.drew ∧ KeepX (fun j => j ≠ h ∧ j ≠ 0) W W.drew ∧ ∃ t : Int, TagOf st (· ∈ (pre ++ [(⟨p, hp⟩ : MkP ws)]).map (fun (z : MkP ws) => z.1)) t ∧ Blk W.drew (w.heap.size + 1) 3 #[.int .i64 t] ∧ Blk W.drew w.heap.size 69 #[.pointer (some ⟨b, 0, none⟩)] ∧ Below w.heap.size w W.drew) := fun hT => by
      refine ⟨(KeepsOthers.drew W).from _, KeepX.of_below (Below.refl _ W).drew, t, ?_, HBT3.out.drew, HBW3.out.drew, HL3.out.drew⟩
      rw [List.map_append]
      exact hT
    have HSET : Hid (TagOf st (· ∈ pre.map (fun (z : MkP ws) => z.1) ++ [p]) s.tag → KeepsFrom W2.heap.size W (W.drew.setCell ⟨w.heap.size + 1, 0, none⟩ (.int .i64 s.tag)) ∧ KeepX (fun j => j ≠ h ∧ j ≠ 0) W (W.drew.setCell ⟨w.heap.size + 1, 0, none⟩ (.int .i64 s.tag)) ∧ ∃ t : Int, TagOf st (· ∈ (pre ++ [(⟨p, hp⟩ : MkP ws)]).map (fun (z : MkP ws) => z.1)) t ∧ Blk (W.drew.setCell ⟨w.heap.size + 1, 0, none⟩ (.int .i64 s.tag)) (w.heap.size + 1) 3 #[.int .i64 t] ∧ Blk (W.drew.setCell ⟨w.heap.size + 1, 0, none⟩ (.int .i64 s.tag)) w.heap.size 69 #[.pointer (some ⟨b, 0, none⟩)] ∧ Below w.heap.size w (W.drew.setCell ⟨w.heap.size + 1, 0, none⟩ (.int .i64 s.tag))) := fun hT => by
      refine ⟨(hkn _).from _, ?_, s.tag, ?_, HBT3.out.drew.set_ 0 _, HBW3.out.drew.other (p := ⟨w.heap.size + 1, 0, none⟩) (by show w.heap.size ≠ w.heap.size + 1; omega) _, HL3.out.drew.setCell (p := ⟨w.heap.size + 1, 0, none⟩) (Nat.le_succ _) _⟩
      · refine ⟨by rw [World.size_setCell]; exact Nat.le_refl _, fun k cs tt fr hx hk => ?_⟩
        have : k ≠ w.heap.size + 1 := by
          intro e
          apply hx
          have := HTB.out
          omega
        exact (Below.heap_setCell _ _ _ _ this).trans hk
      · rw [List.map_append]
        exact hT
    clear hkn ht
    obtain ⟨tg, htg⟩ : ∃ tg, tg = s.tag := ⟨_, rfl⟩
    obtain ⟨kd, hkd⟩ : ∃ kd, kd = s.kind := ⟨_, rfl⟩
    by_cases hk0 : s.kind = 0
    · have hkk : ((s.kind : Int) == 0) = true := by rw [hk0]; rfl
      by_cases ht1 : t = -1
      · have HF := Lib.hid (HSET.out (HM.out.2.1 hk0 ht1))
        have htt : (t == -1) = true := beq_iff_eq.2 ht1
        clear HDONE HSET HM hk0 ht1 hkd htg
        gi_wp2
        gi_region
        all_goals gi_wp2
        all_goals exact HF.out
      · have htt : (t == -1) = false := by rw [Bool.eq_false_iff]; intro e; exact ht1 (beq_iff_eq.1 e)
        by_cases hlt2 : s.tag < t
        · have HF := Lib.hid (HSET.out (HM.out.2.2.1 hk0 hlt2))
          clear HDONE HSET HM hk0 ht1 hkd htg
          gi_wp2
          gi_region
          all_goals gi_wp2
          all_goals exact HF.out
        · have HF := Lib.hid (HDONE.out (HM.out.2.2.2 hk0 ht1 hlt2))
          clear HDONE HSET HM hk0 ht1 hkd htg
          gi_wp2
          gi_region
          all_goals gi_wp2
          all_goals exact HF.out
    · have hkk : ((s.kind : Int) == 0) = false := by rw [Bool.eq_false_iff]; intro e; rw [beq_iff_eq] at e; omega
      have HF := Lib.hid (HDONE.out (HM.out.1 hk0))
      clear HDONE HSET HM hk0 hkd htg
      gi_wp2
      gi_region
      all_goals gi_wp2
      all_goals exact HF.out
  case done =>
    rintro D xs W hD0 hxs ⟨t, ht, hbt, hbw, hlow⟩ hD
    have HT := Lib.hid ht
    have HX := Lib.hid hxs
    have HL := Lib.hid hlow
    have HD : Hid (W.heap[D]? = some (.deferred (some [])) ∧ W2.heap.size ≤ D) := ⟨hD, hD0⟩
    have t0 := hbt.cell 0
    simp at t0
    clear ht hxs hlow hD hbt hbw hseq
    gi_wp2
    refine ⟨by simp, .inl ⟨_, _, rfl, run_takeDeferred HD.out.1, ?_⟩⟩
    refine ⟨.int .i64 t, by simp [results, Tryd.f36, go_sem], t, rfl, HT.out.congr (fun q _ => ⟨fun hq => ?_, fun hq => HX.out q hq⟩), HL.out.grown (grownBy_putObj' W D _) HL.out.size (fun r e => by injection e with e; subst e; have h1 := HD.out.2; have h2 := HSZ.out; omega)⟩
    obtain ⟨z, _, rfl⟩ := List.mem_map.1 hq
    exact z.2
end Go.Proofs.YtdckjjkaoecgaaaDoor
