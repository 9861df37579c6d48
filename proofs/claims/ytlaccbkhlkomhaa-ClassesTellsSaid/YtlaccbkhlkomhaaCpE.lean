/-
  The contract of classes.eachSet, as classes.Of calls it: the classes are parted by each set of some trees. Conditions: the trees lie in memory; at most 100000 nodes.
-/
import Derived.Test.YtlaccbkhlkomhaaCpD
import Derived.Test.YtlaccbkhlkomhaaRnR
namespace Go.Proofs.Ytlaccbkhlkomhaa
open Go.RowKit Go.Shelf

def EsI (C N : Nat) (w0 : World) (ls : List Ry) (m : Nat) (v : Value) (w : World) : Prop :=
  ∃ (V : List St) (g c : Nat) (st : List Ent), m = mu st ∧ v = .slice (some ⟨g, 0, none⟩) st.length c ∧ Ahd C w0 ls V g c st [] w ∧ mu st ≤ N + 1
theorem EsI.step {C N : Nat} {w0 : World} {ls : List Ry} {m m' : Nat} {v v' : Value} {w w' : World} (h : EsI C N w0 ls m' v' w') (hlt : m' < m) (hm : m = leastOf fun m => EsI C N w0 ls m v w) :
    (∃ m, EsI C N w0 ls m v' w') ∧ (leastOf fun m => EsI C N w0 ls m v' w') < leastOf fun m => EsI C N w0 ls m v w :=
  ⟨⟨m', h⟩, by rw [← hm]; exact Nat.lt_of_le_of_lt ((leastOf_spec ⟨m', h⟩).2 m' h) hlt⟩
theorem RyIn.both {C : Nat} {w wr wx : World} {a : Option Addr} {n : Nat} {ks : List Ry} (h : RyIn wr (fun b => b < w.heap.size ∧ b ≠ C) a n ks) (h1 : Only C w wr) (h2 : Only C w wx) (hs : wr.heap.size ≤ wx.heap.size) : RyIn wx (fun b => b < w.heap.size ∧ b ≠ C) a n ks :=
  h.later hs (fun b _ hb => ⟨hb, (h2.block b hb.1 (fun e => hb.2 (by injection e))).trans (h1.block b hb.1 (fun e => hb.2 (by injection e))).symm⟩)
theorem ry_set_ok {x : Ry} (h : ryOk x) : x.set.ok := ⟨h.2.1, h.2.2.1, h.2.2.2.1, h.2.2.2.2⟩
theorem preL_drop {ks : List Ry} {k : Nat} (h : k < ks.length) : preL (ks.drop k) = ks[k] :: (preL ks[k].kids ++ preL (ks.drop (k + 1))) := by
  rw [List.drop_eq_getElem_cons h, preL_cons]
theorem preL_take {ks : List Ry} {k : Nat} (h : k < ks.length) : (preL (ks.take (k + 1))).length = (preL (ks.take k)).length + 1 + (preL ks[k].kids).length := by
  rw [List.take_succ_eq_append_getElem h, preL_app, List.length_append, preL_cons]
  simp [preL]
  omega
theorem infoRes2 : (Try.prog.info? 22).map (fun i => (i.zero, i.size, i.bytes)) = some (some (.slice none 0 0), 1, 24) := by kernel_rfl
set_option maxRecDepth 100000 in
set_option maxHeartbeats 4000000 in
theorem eachSet_any (a : Option Addr) (n : Nat) (ls : List Ry) (C : Nat) (w : World) (hC : Blk w C 25 (clV [])) (hr : RyIn w (fun b => b < w.heap.size ∧ b ≠ C) a n ls) (hN : (preL ls).length ≤ 100000) :
    Calls Try.prog 25 #[.slice a ls.length n, .func (.func 26) #[] #[.pointer (some ⟨C, 0, none⟩)]] w fun e w' => (∃ v, e = .returned v) ∧ Only C w w' ∧ ∃ V, (∀ s, s ∈ V ↔ SetIn (preL ls) s) ∧ Blk w' C 25 (clV V) := by
  have HA0 := Lib.hid (Ahd.start hC hr)
  have HCL := Lib.hid hC.lt
  obtain ⟨N, hNN⟩ : ∃ N, N = (preL ls).length := ⟨_, rfl⟩
  have HMU : Hid (mu [(a, n, ls)] ≤ N + 1) := by show mu [(a, n, ls)] ≤ N + 1; rw [hNN]; simp [mu, pendS]
  have HN := Lib.hid (show N ≤ 100000 by omega)
  have HNN := Lib.hid hNN
  obtain ⟨q, hq⟩ : ∃ q, q = ls.length := ⟨_, rfl⟩
  rw [← hq] at HA0 ⊢
  clear hC hr hN hNN hq
  go_enter Try.func25, Try.ntmps25
  go_wp2
  go_loopw [4] (fun v wr => ∃ m, EsI C N w ls m v wr) (fun v wr => leastOf fun m => EsI C N w ls m v wr)
  case atStart => exact ⟨_, [], w.heap.size, 1, [(a, n, ls)], rfl, rfl, HA0.out, HMU.out⟩
  case round =>
    obtain ⟨hI, -⟩ := leastOf_spec hrel
    obtain ⟨m0, hm0⟩ : ∃ m0, m0 = leastOf fun m => EsI C N w ls m u4 wr := ⟨_, rfl⟩
    rw [← hm0] at hI
    have HM0 := Lib.hid hm0
    clear hm0 hrel HA0 HMU
    obtain ⟨V, g, c, st, hm, rfl, hs, hmu⟩ := hI
    have HM := Lib.hid hm
    have HMU := Lib.hid hmu
    clear hm hmu
    rcases List.eq_nil_or_concat st with rfl | ⟨st', e, rfl⟩
    · have HS := Lib.hid hs
      clear hs
      go_wp2
      go_end0
      refine ⟨⟨_, rfl⟩, HS.out.only, V, fun s => ?_, HS.out.cl⟩
      rw [HS.out.sets]
      constructor
      · exact .inl
      · rintro (h | h)
        · exact h
        · exact absurd h (SetIn.nil s)
    · obtain ⟨a, cc, ks⟩ := e
      rw [List.concat_eq_append] at *
      obtain ⟨hl1, hl2, hl3⟩ := hs.last
      have hbd := hs.bound
      have HP := Lib.hid hs.pop
      have HL3 := Lib.hid hl3
      clear hs hl3
      have hlen : (st' ++ [(a, cc, ks)]).length = st'.length + 1 := by simp
      rw [hlen] at hbd ⊢
      rw [hlen] at HM0
      have hmx := mu_snoc st' (a, cc, ks)
      rw [hmx] at HM HMU
      simp only [entV] at hl1
      simp only at HM HMU HP HL3
      obtain ⟨n0, hn0⟩ : ∃ n0, n0 = st'.length := ⟨_, rfl⟩
      have hn9 : st'.length ≤ mu st' := by unfold mu; omega
      rw [← hn0] at hl1 hl2 hbd HM0 hn9 ⊢
      have HNE : Hid (n0 = st'.length) := hn0
      have hp0 : n0 ≤ 100000 := by have := HMU.out; have := HN.out; omega
      have hp1 : ((0 : Int) < ((n0 + 1 : Nat) : Int)) := by omega
      have hp2 : ((n0 + 1 : Nat) : Int) - 1 = (n0 : Int) := by omega
      have hp3 : (n0 : Int) < ((n0 + 1 : Nat) : Int) := by omega
      have hp4 : (0 : Int) ≤ (n0 : Int) := by omega
      have HBD : Hid (n0 + 1 ≤ c ∧ c ≤ maxLen ∧ w.heap.size ≤ g) := hbd
      obtain ⟨n1, hn1⟩ : ∃ n1, n1 = n0 + 1 := ⟨_, rfl⟩
      have HN1 := Lib.hid hn1
      rw [← hn1] at hp1 hp2 hp3 HM0 ⊢
      have hp6 : 0 < n1 := by omega
      have hp7 : decide (0 < n1) = true := by simpa using hp6
      obtain ⟨nk, hnk⟩ : ∃ nk, nk = ks.length := ⟨_, rfl⟩
      have HNK := Lib.hid hnk
      have hkm : nk ≤ 100000 := by
        have h1 := preL_len ks
        have := HMU.out
        have := HN.out
        omega
      rw [← hnk] at hl1
      have hsl : ∀ W, (Instr.slice 66 (.slice (some ⟨g, 0, none⟩) n1 c) none (some (.int .i64 (n0 : Int))) none).run Try.prog W = .ok (.slice (some ⟨g, 0, none⟩) n0 c) W := fun W => by
        have h1 := HBD.out.1
        have h2 := HBD.out.2.1
        unfold maxLen at h2
        rw [run_slice_h W 66 _ _ _ (by kernel_rfl) .i64 (n0 : Int) (by omega) (by omega)]
        have : ∀ W, (sizeOf (Try.prog.elem 66)).run Try.prog W = .ok 1 W := fun W => by kernel_rfl
        rw [this]
        unfold sliced
        have h0 : (⟨g, 0, none⟩ : Addr).add 0 = ⟨g, 0, none⟩ := by rw [Addr.add_lit]
        simp [Result.andThen, h0]
      clear hn0 hn1 hlen hnk hbd hn9 hmx
      obtain ⟨w9, hw9⟩ : ∃ w9, w9 = wr := ⟨_, rfl⟩
      go_wp2
      subst hw9
      go_loopw [4, 26] (fun v i wx => ∃ (k : Nat) (V' : List St) (g' c' : Nat) (s2 : List Ent), k ≤ nk ∧ i = .int .i64 k ∧ v = .slice (some ⟨g', 0, none⟩) s2.length c' ∧ Hid (Ahd C w ls V' g' c' s2 (preL (ks.drop k)) wx) ∧ Hid (mu s2 ≤ mu st' + (preL (ks.take k)).length) ∧ Hid (w9.heap.size ≤ wx.heap.size)) (fun _ i _ => nk - (intOf i).toNat)
      case atStart => exact ⟨0, V, g, c, st', Nat.zero_le _, rfl, by rw [HNE.out], HP.out, by simp [Hid, preL], Nat.le_refl _⟩
      case round =>
        obtain ⟨k, V', g', c', s2, hk, rfl, rfl, HA, HU, HO⟩ := hrel
        by_cases hlt : k < nk
        · have hlt' : (k : Int) < nk := by omega
          have h0' : (0 : Int) ≤ k := by omega
          have hko : k < ks.length := by rw [← HNK.out]; exact hlt
          have HRX := Lib.hid (HL3.out.both HP.out.only HA.out.only HO.out)
          obtain ⟨b, off, rfl, hbl, hbS, hxok, hxc, hxk⟩ := HRX.out.at_ hko
          obtain ⟨x, hx⟩ : ∃ x, x = ks[k]'hko := ⟨_, rfl⟩
          rw [← hx] at hxc hxk hxok
          have hmid := preL_drop hko
          have htk := preL_take hko
          rw [← hx] at hmid htk
          have HXO := Lib.hid HA.out.only
          have HAX := Lib.hid (show Ahd C w ls V' g' c' s2 (x :: (preL x.kids ++ preL (ks.drop (k + 1)))) wr by rw [← hmid]; exact HA.out)
          have HTK := Lib.hid htk
          have HOK := Lib.hid hxok
          have HXK := Lib.hid hxk
          have a0 := hxc 0 _ rfl
          have a1 := hxc 1 _ rfl
          have a2 := hxc 2 _ rfl
          have a3 := hxc 3 _ rfl
          have a4 := hxc 4 _ rfl
          have a5 := hxc 5 _ rfl
          rw [Nat.add_zero] at a0
          obtain ⟨xl, hxl⟩ : ∃ xl, xl = x.kids.length := ⟨_, rfl⟩
          rw [← hxl] at a5
          have HXL := Lib.hid hxl
          have HBX := Lib.hid (Blk.new wr 42 #[.int .u8 (x.kind : Int), .int .u64 (x.s0 : Int), .int .u64 (x.s1 : Int), .int .u64 (x.s2 : Int), .int .u64 (x.s3 : Int), .slice x.a xl x.cap])
          have HAL := Lib.hid (HAX.out.later ((Below.refl _ wr).alloc (Nat.le_refl _) (.cells #[.int .u8 (x.kind : Int), .int .u64 (x.s0 : Int), .int .u64 (x.s1 : Int), .int .u64 (x.s2 : Int), .int .u64 (x.s3 : Int), .slice x.a xl x.cap] 42)))
          have HON : Hid (w.heap.size ≤ wr.heap.size) := HA.out.only.size
          have HSB : Hid (s2.length ≤ 200001) := by
            have h1 := HU.out
            have h2 := HMU.out
            have h3 := HN.out
            have h4 : s2.length ≤ mu s2 := by unfold mu; omega
            have h5 : (preL (ks.take k)).length ≤ (preL ks).length := by
              have := congrArg (fun l => (preL l).length) (List.take_append_drop k ks)
              simp only [preL_app, List.length_append] at this
              omega
            show s2.length ≤ 200001
            omega
          clear hx hxc hxk hxok hbl hbS hmid htk hxl HRX HAX HA
          by_cases h1 : x.kind = 1
          · have h1' : (x.kind : Int) = 1 := by omega
            have HDO := Lib.hid (of1_any V' x.set C (wr.alloc (.cells #[.int .u8 (x.kind : Int), .int .u64 (x.s0 : Int), .int .u64 (x.s1 : Int), .int .u64 (x.s2 : Int), .int .u64 (x.s3 : Int), .slice x.a xl x.cap] 42)) (ry_set_ok HOK.out) HAL.out.cl)
            rw [show setV x.set = .agg #[.int .u64 (x.s0 : Int), .int .u64 (x.s1 : Int), .int .u64 (x.s2 : Int), .int .u64 (x.s3 : Int)] from rfl] at HDO
            have HK1 := Lib.hid h1
            rw [h1'] at HDO HBX HAL
            go_wp2_with (go_at_call 26; refine HDO.out.mono ?_)
            rintro e w5 ⟨⟨v5, rfl⟩, ho5, hb5⟩
            have hcl : C < wr.heap.size := Nat.lt_of_lt_of_le HCL.out HON.out
            have f5 : w5.cell? ⟨wr.heap.size, 5, none⟩ = some (.slice x.a xl x.cap) := (ho5.blk HBX.out (by omega)).cell 5
            have HA2 := Lib.hid (HAL.out.did HCL.out ho5 hb5 HK1.out)
            have hs5 := ho5.size
            have HW4 : Hid (wr.heap.size < w5.heap.size) := by show wr.heap.size < w5.heap.size; simp at hs5; omega
            have HW2 : Hid (w9.heap.size ≤ w5.heap.size) := by have h2 := HO.out; have h3 := HW4.out; show w9.heap.size ≤ w5.heap.size; omega
            clear ho5 hb5 HDO HAL hs5 hcl
            have hsb := HSB.out
            by_cases hz : xl = 0
            · have hz' : ¬ (0 : Int) < (xl : Int) := by omega
              have hkn : x.kids = [] := List.eq_nil_of_length_eq_zero (by rw [← HXL.out]; exact hz)
              have HA3 := Lib.hid (show Ahd C w ls (V' ++ [x.set]) g' c' s2 (preL (ks.drop (k + 1))) w5 by have := HA2.out; rw [hkn] at this; exact this)
              have HU3 : Hid (mu s2 ≤ mu st' + (preL (ks.take (k + 1))).length) := by have h1 := HU.out; have h2 := HTK.out; show mu s2 ≤ mu st' + (preL (ks.take (k + 1))).length; omega
              subst hz
              clear HA2 hkn
              go_wp2
              go_roundw
              case rel => exact ⟨k + 1, _, g', c', s2, by omega, by go_num, rfl, HA3, HU3, HW2⟩
              case measure => simp [intOf]; omega
            · have hz' : (0 : Int) < (xl : Int) := by omega
              obtain ⟨i0, hi0, hz0, hz1, hz2⟩ := info_parts infoRes2
              go_wp2_with (at_builtin; refine wpList_append_own _ rfl _ _ 66 rfl w.heap.size 22 i0 (.slice none 0 0) 1 24 Try.underlying66 hi0 hz0 hz1 hz2 rfl (by decide) _ _ _ rfl (HA2.out.own.alloc _) ⟨w5.heap.size, 0, none⟩ 1 1 [.slice x.a xl x.cap] rfl rfl (cell_one_new _ _ _) (by simp [Value.oneCell']) (by unfold maxLen; omega) (by omega) (by have := HON.out; have := HW4.out; simp at this ⊢; omega) ?_; intro v' w4 hown4 hg4 _; obtain ⟨g3, c3, rfl⟩ := ownsRow_succ hown4)
              have HA3 := Lib.hid (HA2.out.later ((Below.refl _ _).alloc (Nat.le_refl _) (.cells #[.slice x.a xl x.cap] 22)))
              have hxk3 : RyIn (w5.alloc (.cells #[.slice x.a xl x.cap] 22)) (fun b => b < w.heap.size ∧ b ≠ C) x.a x.cap x.kids := HXK.out.both HXO.out HA3.out.only (by have := HW4.out; simp at this ⊢; omega)
              have HA4 := Lib.hid (HA3.out.push (g' := g3) (c' := c3) HCL.out hxk3 hg4 (by rw [List.map_append]; rw [HXL.out] at hown4; exact hown4))
              have HU3 : Hid (mu (s2 ++ [(x.a, x.cap, x.kids)]) ≤ mu st' + (preL (ks.take (k + 1))).length) := by have h1 := HU.out; have h2 := HTK.out; have h3 := mu_snoc s2 (x.a, x.cap, x.kids); show mu (s2 ++ [(x.a, x.cap, x.kids)]) ≤ mu st' + (preL (ks.take (k + 1))).length; simp only at h3; omega
              have hsz4 := hg4.size
              have HW3 : Hid (w9.heap.size ≤ w4.heap.size) := by have h1 := HW2.out; show w9.heap.size ≤ w4.heap.size; simp at hsz4 h1; omega
              go_wp2
              go_roundw
              case rel => exact ⟨k + 1, _, g3, c3, s2 ++ [(x.a, x.cap, x.kids)], by omega, by go_num, by simp, HA4, HU3, HW3⟩
              case measure => simp [intOf]; omega
          · have h1' : ¬ (x.kind : Int) = 1 := by omega
            have HA2 := Lib.hid (HAL.out.skip h1)
            have HW4 : Hid (wr.heap.size < (World.heap (wr.alloc (.cells #[.int .u8 (x.kind : Int), .int .u64 (x.s0 : Int), .int .u64 (x.s1 : Int), .int .u64 (x.s2 : Int), .int .u64 (x.s3 : Int), .slice x.a xl x.cap] 42))).size) := by show wr.heap.size < (World.heap (wr.alloc (.cells #[.int .u8 (x.kind : Int), .int .u64 (x.s0 : Int), .int .u64 (x.s1 : Int), .int .u64 (x.s2 : Int), .int .u64 (x.s3 : Int), .slice x.a xl x.cap] 42))).size; simp
            have HW2 : Hid (w9.heap.size ≤ (World.heap (wr.alloc (.cells #[.int .u8 (x.kind : Int), .int .u64 (x.s0 : Int), .int .u64 (x.s1 : Int), .int .u64 (x.s2 : Int), .int .u64 (x.s3 : Int), .slice x.a xl x.cap] 42))).size) := by have h2 := HO.out; have h3 := HW4.out; show w9.heap.size ≤ (World.heap (wr.alloc (.cells #[.int .u8 (x.kind : Int), .int .u64 (x.s0 : Int), .int .u64 (x.s1 : Int), .int .u64 (x.s2 : Int), .int .u64 (x.s3 : Int), .slice x.a xl x.cap] 42))).size; omega
            have f5 : World.cell? (wr.alloc (.cells #[.int .u8 (x.kind : Int), .int .u64 (x.s0 : Int), .int .u64 (x.s1 : Int), .int .u64 (x.s2 : Int), .int .u64 (x.s3 : Int), .slice x.a xl x.cap] 42)) ⟨wr.heap.size, 5, none⟩ = some (.slice x.a xl x.cap) := HBX.out.cell 5
            clear HAL
            go_upto_region 10 with (fail)
            generalize (wr.alloc (.cells #[.int .u8 (x.kind : Int), .int .u64 (x.s0 : Int), .int .u64 (x.s1 : Int), .int .u64 (x.s2 : Int), .int .u64 (x.s3 : Int), .slice x.a xl x.cap] 42)) = w5 at *
            have hsb := HSB.out
            by_cases hz : xl = 0
            · have hz' : ¬ (0 : Int) < (xl : Int) := by omega
              have hkn : x.kids = [] := List.eq_nil_of_length_eq_zero (by rw [← HXL.out]; exact hz)
              have HA3 := Lib.hid (show Ahd C w ls V' g' c' s2 (preL (ks.drop (k + 1))) w5 by have := HA2.out; rw [hkn] at this; exact this)
              have HU3 : Hid (mu s2 ≤ mu st' + (preL (ks.take (k + 1))).length) := by have h1 := HU.out; have h2 := HTK.out; show mu s2 ≤ mu st' + (preL (ks.take (k + 1))).length; omega
              subst hz
              clear HA2 hkn
              go_wp2
              go_roundw
              case rel => exact ⟨k + 1, _, g', c', s2, by omega, by go_num, rfl, HA3, HU3, HW2⟩
              case measure => simp [intOf]; omega
            · have hz' : (0 : Int) < (xl : Int) := by omega
              obtain ⟨i0, hi0, hz0, hz1, hz2⟩ := info_parts infoRes2
              go_wp2_with (at_builtin; refine wpList_append_own _ rfl _ _ 66 rfl w.heap.size 22 i0 (.slice none 0 0) 1 24 Try.underlying66 hi0 hz0 hz1 hz2 rfl (by decide) _ _ _ rfl (HA2.out.own.alloc _) ⟨w5.heap.size, 0, none⟩ 1 1 [.slice x.a xl x.cap] rfl rfl (cell_one_new _ _ _) (by simp [Value.oneCell']) (by unfold maxLen; omega) (by omega) (by have := HON.out; have := HW4.out; simp at this ⊢; omega) ?_; intro v' w4 hown4 hg4 _; obtain ⟨g3, c3, rfl⟩ := ownsRow_succ hown4)
              have HA3 := Lib.hid (HA2.out.later ((Below.refl _ _).alloc (Nat.le_refl _) (.cells #[.slice x.a xl x.cap] 22)))
              have hxk3 : RyIn (w5.alloc (.cells #[.slice x.a xl x.cap] 22)) (fun b => b < w.heap.size ∧ b ≠ C) x.a x.cap x.kids := HXK.out.both HXO.out HA3.out.only (by have := HW4.out; simp at this ⊢; omega)
              have HA4 := Lib.hid (HA3.out.push (g' := g3) (c' := c3) HCL.out hxk3 hg4 (by rw [List.map_append]; rw [HXL.out] at hown4; exact hown4))
              have HU3 : Hid (mu (s2 ++ [(x.a, x.cap, x.kids)]) ≤ mu st' + (preL (ks.take (k + 1))).length) := by have h1 := HU.out; have h2 := HTK.out; have h3 := mu_snoc s2 (x.a, x.cap, x.kids); show mu (s2 ++ [(x.a, x.cap, x.kids)]) ≤ mu st' + (preL (ks.take (k + 1))).length; simp only at h3; omega
              have hsz4 := hg4.size
              have HW3 : Hid (w9.heap.size ≤ w4.heap.size) := by have h1 := HW2.out; show w9.heap.size ≤ w4.heap.size; simp at hsz4 h1; omega
              go_wp2
              go_roundw
              case rel => exact ⟨k + 1, _, g3, c3, s2 ++ [(x.a, x.cap, x.kids)], by omega, by go_num, by simp, HA4, HU3, HW3⟩
              case measure => simp [intOf]; omega
        · obtain rfl : k = nk := by omega
          go_wp2
          have hd : ks.drop k = [] := List.drop_eq_nil_of_le (by rw [← HNK.out]; exact Nat.le_refl _)
          have htk : ks.take k = ks := List.take_of_length_le (by rw [← HNK.out]; exact Nat.le_refl _)
          have h1 := HU.out
          have h2 := HM.out
          have h3 := HMU.out
          have h4 := HA.out
          rw [htk] at h1
          rw [hd] at h4
          exact EsI.step (m' := mu s2) ⟨V', g', c', s2, rfl, rfl, h4, by omega⟩ (by omega) HM0.out
end Go.Proofs.Ytlaccbkhlkomhaa
