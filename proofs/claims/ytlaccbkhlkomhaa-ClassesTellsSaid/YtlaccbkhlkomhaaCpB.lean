/-
  The contract of classes.parted. Conditions: 256 bytes, a set.
-/
import Derived.Test.YtlaccbkhlkomhaaCpA
import Derived.Deep.RegionLaw
import Derived.Deep.DeepCutAuto
namespace Go.Proofs.Ytlaccbkhlkomhaa
open Go.RowKit Go.Maps

theorem zeroU8 (w : World) : (zeroValue 5).run Try.prog w = .ok (.int .u8 0) w := by kernel_rfl
/-- the memory of the numbering -/
structure PdMem (w wr : World) (cs sc zs : Array Value) (of : List UInt8) (s : St) (k : Nat) : Prop where
  low : Below w.heap.size w wr
  cl : Blk wr w.heap.size 25 cs
  st : Blk wr (w.heap.size + 1) 28 sc
  res : Blk wr (w.heap.size + 1 + 1) 25 zs
  out : Blk wr (w.heap.size + 1 + 1 + 1) 25 (clCells (padL of s k) 0).toArray
  mp : wr.ownsMap Try.prog 70 (plainElem Try.prog 5) (w.heap.size + 1 + 1 + 1 + 1) k (mapD (seenB of s k))
  size : w.heap.size + 5 ≤ wr.heap.size
theorem PdMem.later {w wr w5 : World} {cs sc zs : Array Value} {of : List UInt8} {s : St} {k : Nat} (h : PdMem w wr cs sc zs of s k) (hb : Below wr.heap.size wr w5) : PdMem w w5 cs sc zs of s k :=
  ⟨low_trans h.low hb, h.cl.below hb h.cl.lt, h.st.below hb h.st.lt, h.res.below hb h.res.lt, h.out.below hb h.out.lt, h.mp.kept (row := none) ⟨hb.os, hb.tape, hb.output, hb.size, fun i hi _ => hb.block i hi⟩ (by simp), Nat.le_trans h.size hb.size⟩
theorem padL_put (of : List UInt8) (s : St) (k : Nat) (hk : k < 256) : ((clCells (padL of s k) 0).toArray).setIfInBounds k (.int .u8 (posL (seenB of s k) (keyB of s k) : Int)) = (clCells (padL of s (k + 1)) 0).toArray := by
  have h1 := clCells_set (padL of s k) 0 k (UInt8.ofNat (posL (seenB of s k) (keyB of s k))) (by rw [padL_len of s k (by omega)]; exact hk)
  have h2 : (UInt8.ofNat (posL (seenB of s k) (keyB of s k))).toNat = posL (seenB of s k) (keyB of s k) := by
    rw [UInt8.toNat_ofNat']
    exact Nat.mod_eq_of_lt (num_lt of s k hk)
  unfold byteV at h1
  rw [h2, ← padL_set of s k hk] at h1
  exact h1
theorem PdMem.hit {w wr : World} {cs sc zs : Array Value} {of : List UInt8} {s : St} {k : Nat} (h : PdMem w wr cs sc zs of s k) (hk : k < 256) (hm : keyB of s k ∈ seenB of s k) :
    PdMem w (wr.setCell ⟨w.heap.size + 1 + 1 + 1, k, none⟩ (.int .u8 (posL (seenB of s k) (keyB of s k) : Int))) cs sc zs of s (k + 1) := by
  refine ⟨h.low.setCell (p := ⟨w.heap.size + 1 + 1 + 1, k, none⟩) (by show w.heap.size ≤ w.heap.size + 1 + 1 + 1; omega) _, h.cl.other (by show w.heap.size ≠ w.heap.size + 1 + 1 + 1; omega) _, h.st.other (by show w.heap.size + 1 ≠ w.heap.size + 1 + 1 + 1; omega) _, h.res.other (by show w.heap.size + 1 + 1 ≠ w.heap.size + 1 + 1 + 1; omega) _, ?_, ?_, by simpa using h.size⟩
  · rw [← padL_put of s k hk]
    exact h.out.set_ _ _
  · rw [seenB_hit hm]
    exact (h.mp.mono (Nat.le_succ k)).setCell (by show w.heap.size + 1 + 1 + 1 + 1 ≠ w.heap.size + 1 + 1 + 1; omega) _
theorem PdMem.miss {w wr w1 : World} {cs sc zs : Array Value} {of : List UInt8} {s : St} {k : Nat} (h : PdMem w wr cs sc zs of s k) (hk : k < 256) (hm : keyB of s k ∉ seenB of s k)
    (ho : w1.ownsMap Try.prog 70 (plainElem Try.prog 5) (w.heap.size + 1 + 1 + 1 + 1) (k + 1) ((mapD (seenB of s k)).put (klOf (keyB of s k)) (.lit (.int .u8 ((seenB of s k).length : Int))))) (hg : wr.grownBy w1 (some (w.heap.size + 1 + 1 + 1 + 1))) :
    PdMem w (w1.setCell ⟨w.heap.size + 1 + 1 + 1, k, none⟩ (.int .u8 ((seenB of s k).length : Int))) cs sc zs of s (k + 1) := by
  have ne : ∀ g, g < w.heap.size + 4 → some g ≠ some (w.heap.size + 1 + 1 + 1 + 1) := fun g hg e => by injection e with e; omega
  have hl : Below w.heap.size w w1 := h.low.grown hg (by have := h.size; omega) (fun r hr => by injection hr with hr; omega)
  refine ⟨hl.setCell (p := ⟨w.heap.size + 1 + 1 + 1, k, none⟩) (by show w.heap.size ≤ w.heap.size + 1 + 1 + 1; omega) _, (h.cl.kept hg (ne _ (by omega))).other (by show w.heap.size ≠ w.heap.size + 1 + 1 + 1; omega) _, (h.st.kept hg (ne _ (by omega))).other (by show w.heap.size + 1 ≠ w.heap.size + 1 + 1 + 1; omega) _, (h.res.kept hg (ne _ (by omega))).other (by show w.heap.size + 1 + 1 ≠ w.heap.size + 1 + 1 + 1; omega) _, ?_, ?_, by have := hg.size; have := h.size; simp; omega⟩
  · rw [← padL_put of s k hk, posL_out hm]
    exact (h.out.kept hg (ne _ (by omega))).set_ _ _
  · rw [seenB_miss hm, mapD_snoc]
    exact ho.setCell (by show w.heap.size + 1 + 1 + 1 + 1 ≠ w.heap.size + 1 + 1 + 1; omega) _
theorem blk_kept {X w2 : World} {t : TypeId} {cs : Array Value} (h : Below (X.alloc (.cells cs t)).drew.heap.size (X.alloc (.cells cs t)).drew w2) : Blk w2 X.heap.size t cs := (Blk.new X t cs).drew.below h (by show X.heap.size < (X.alloc _).heap.size; simp)
theorem key_blk {wr w2 : World} {t : TypeId} {a b a' b' : Value} (h : Blk w2 wr.heap.size t #[a, b]) : Blk ((w2.setCell ⟨wr.heap.size, 0, none⟩ a').setCell ⟨wr.heap.size, 1, none⟩ b') wr.heap.size t #[a', b'] := (h.set_ 0 a').set_ 1 b'
theorem low_b {X w2 : World} {o : Obj} (h : Below (X.alloc o).drew.heap.size (X.alloc o).drew w2) : Below X.heap.size X w2 := (((Below.refl _ X).alloc (Nat.le_refl _) o).drew).trans (h.mono (by show X.heap.size ≤ (X.alloc o).heap.size; simp))
theorem low_a {X w2 : World} (h : Below X.drew.heap.size X.drew w2) : Below X.heap.size X w2 := ((Below.refl _ X).drew).trans h
theorem key_late {X w2 : World} {t : TypeId} {cs : Array Value} (h : Below X.heap.size X w2) : Hid (X.heap.size ≤ w2.heap.size ∧ Blk (w2.alloc (.cells cs t)) w2.heap.size t cs ∧ Below X.heap.size X (w2.alloc (.cells cs t))) := ⟨h.size, Blk.new _ _ _, h.alloc h.size _⟩
theorem key_early {X w2 : World} {t : TypeId} {a b a' b' : Value} (h : Below X.heap.size X w2) (hk : Blk w2 X.heap.size t #[a, b]) : Hid (X.heap.size ≤ X.heap.size ∧ Blk ((w2.setCell ⟨X.heap.size, 0, none⟩ a').setCell ⟨X.heap.size, 1, none⟩ b') X.heap.size t #[a', b'] ∧ Below X.heap.size X ((w2.setCell ⟨X.heap.size, 0, none⟩ a').setCell ⟨X.heap.size, 1, none⟩ b')) :=
  ⟨Nat.le_refl _, key_blk hk, (h.setCell (p := ⟨X.heap.size, 0, none⟩) (Nat.le_refl _) _).setCell (p := ⟨X.heap.size, 1, none⟩) (Nat.le_refl _) _⟩
attribute [local go_sem ↓] loadCl_eq storeCl_eq
set_option maxRecDepth 100000 in
set_option maxHeartbeats 4000000 in
theorem parted_any (of : List UInt8) (many : Int) (s : St) (w : World) (ho : of.length = 256) (hs : s.ok) :
    Calls Try.prog 28 #[.agg (clCells of many).toArray, setV s] w fun e w' => e = .returned (.agg (clCells (partedL of s) (manyP of s : Int)).toArray) ∧ Below w.heap.size w w' := by
  obtain ⟨cs, HC⟩ : ∃ cs, Hid ((clCells of many).toArray = cs) := ⟨_, rfl⟩
  have HHAS : Hid (∀ (b : Nat), b < 256 → ∀ w, Calls Try.prog 37 #[setV s, .int .i64 (b : Int)] w fun e w' => e = .returned (.bool (inS s b)) ∧ Below w.heap.size w w') := fun b hb w => has_any s b hb hs w
  rw [HC.out]
  obtain ⟨zs, hzs⟩ : ∃ zs : Array Value, zs = (clCells cl0 0).toArray := ⟨_, rfl⟩
  have hz : ∀ W, (zeroValue 25).run Try.prog W = .ok (.agg zs) W := fun W => by rw [hzs]; kernel_rfl
  have HZ := Lib.hid hzs
  have hmm := @run_makeMap Try.prog
  clear hzs
  unfold setV at *
  unfold setC at *
  go_enter Try.func28, Try.ntmps28
  go_wp2
  have HP0 : Hid (PdMem w (((((w.alloc (.cells cs 25)).alloc (.cells #[.int .u64 (s.s0 : Int), .int .u64 (s.s1 : Int), .int .u64 (s.s2 : Int), .int .u64 (s.s3 : Int)] 28)).alloc (.cells zs 25)).alloc (.cells zs 25)).alloc (.map #[] 0)) cs #[.int .u64 (s.s0 : Int), .int .u64 (s.s1 : Int), .int .u64 (s.s2 : Int), .int .u64 (s.s3 : Int)] zs of s 0) := by
    refine ⟨(((((Below.refl _ _).alloc (Nat.le_refl _) _).alloc (by simp) _).alloc (by simp; omega) _).alloc (by simp; omega) _).alloc (by simp; omega) _, ((((Blk.new _ _ _).alloc _).alloc _).alloc _).alloc _, (((Blk.new_at _ _ _ _ (by simp)).alloc _).alloc _).alloc _, ((Blk.new_at _ _ _ _ (by simp)).alloc _).alloc _, ?_, ?_, by simp⟩
    · rw [padL_zero, ← HZ.out]
      exact (Blk.new_at _ _ _ _ (by simp)).alloc _
    · have := World.ownsMap_made (H := Unit) ((((w.alloc (.cells cs 25)).alloc (.cells #[.int .u64 (s.s0 : Int), .int .u64 (s.s1 : Int), .int .u64 (s.s2 : Int), .int .u64 (s.s3 : Int)] 28)).alloc (.cells zs 25)).alloc (.cells zs 25)) Try.prog 70 (plainElem Try.prog 5)
      rw [show mapD (seenB of s 0) = DataW.map [] from rfl]
      simpa only [World.size_alloc] using this
  generalize ((((w.alloc (.cells cs 25)).alloc (.cells #[.int .u64 (s.s0 : Int), .int .u64 (s.s1 : Int), .int .u64 (s.s2 : Int), .int .u64 (s.s3 : Int)] 28)).alloc (.cells zs 25)).alloc (.cells zs 25)).alloc (.map #[] 0) = W0 at *
  have HO := Lib.hid ho
  have HS := Lib.hid hs
  clear hz ho hs hmm
  go_loopw [12] (fun i wr => ∃ k : Nat, k ≤ 256 ∧ i = .int .i64 k ∧ Hid (PdMem w wr cs #[.int .u64 (s.s0 : Int), .int .u64 (s.s1 : Int), .int .u64 (s.s2 : Int), .int .u64 (s.s3 : Int)] zs of s k)) (fun i _ => 256 - (intOf i).toNat)
  case atStart => exact ⟨0, by omega, rfl, HP0.out⟩
  case round =>
    obtain ⟨k, hk, rfl, HP⟩ := hrel
    by_cases hlt : k < 256
    · have hko : k < of.length := by rw [HO.out]; exact hlt
      obtain ⟨c, hc⟩ : ∃ c, c = (of.getD k 0).toNat := ⟨_, rfl⟩
      have hc256 : c < 256 := by rw [hc]; exact UInt8.toNat_lt _
      have b0 : wr.cell? ⟨w.heap.size, k, none⟩ = some (.int .u8 (c : Int)) := by
        rw [HP.out.cl.cell, ← HC.out, List.getElem?_toArray, clCells_at of many k hko, hc, List.getD_eq_getElem?_getD, List.getElem?_eq_getElem hko]
        rfl
      have t0 := HP.out.st.cell 0
      have t1 := HP.out.st.cell 1
      have t2 := HP.out.st.cell 2
      have t3 := HP.out.st.cell 3
      simp at t0 t1 t2 t3
      have ta := HP.out.st.alloc (.cells #[.int .u8 0, .bool false] 70)
      have t4 := ta.cell 0
      have t5 := ta.cell 1
      have t6 := ta.cell 2
      have t7 := ta.cell 3
      simp at t4 t5 t6 t7
      clear ta
      have HCLC : Hid (∀ W, Below wr.heap.size wr W → W.cell? ⟨w.heap.size, k, none⟩ = some (.int .u8 (c : Int))) := fun W hW => (hW.cell (p := ⟨w.heap.size, k, none⟩) HP.out.cl.lt).trans b0
      have b1 := HCLC.out _ ((Below.refl _ wr).alloc (Nat.le_refl _) (.cells #[.int .u8 0, .bool false] 70))
      obtain ⟨B, hB⟩ : ∃ B, B = inS s k := ⟨_, rfl⟩
      have HKEY : Hid (keyB of s k = (c, B)) := by show _ = _; unfold keyB; rw [hc, hB]
      have HHB := Lib.hid (fun W => HHAS.out k hlt W)
      rw [← hB] at HHB
      clear hB hc HP0 HHAS hko
      go_upto_region 6 with (fail)
      go_cut [8] (fun v wx => ∃ kb : Nat, v = .pointer (some ⟨kb, 0, none⟩) ∧ Hid (wr.heap.size ≤ kb ∧ Blk wx kb 70 #[.int .u8 (c : Int), .bool B] ∧ Below wr.heap.size wr wx))
      case first =>
        go_region_law (first | (go_simp; go_at_call 37; refine (HHB.out _).mono ?_; rintro e w2 ⟨rfl, hb2⟩; have HB2 := Lib.hid hb2; first | (have hkk : Blk w2 wr.heap.size 70 #[.int .u8 0, .bool false] := blk_kept hb2; have HKK := Lib.hid hkk; have y0 := hkk.cell 0; have y1 := hkk.cell 1; have z0 := hkk.frozen 0; have z1 := hkk.frozen 1; simp at y0 y1; clear hkk; have HL2 := Lib.hid (low_b hb2); have b9 := HCLC.out _ HL2.out; clear hb2) | (have HL2 := Lib.hid (low_a hb2); have b9 := HCLC.out _ HL2.out; have b8 := HCLC.out _ (HL2.out.alloc HL2.out.size (.cells #[.int .u8 0, .bool false] 70)); clear hb2)))
        all_goals go_wp2
        all_goals go_meet
        all_goals (first | exact ⟨_, rfl, key_late HL2.out⟩ | exact ⟨_, rfl, key_early HL2.out HKK.out⟩)
      case rest =>
        obtain ⟨kb, rfl, HKB⟩ := hcut
        have hpc := HP.out.later HKB.out.2.2
        have HPC := Lib.hid hpc
        have k0 := HKB.out.2.1.cell 0
        have k1 := HKB.out.2.1.cell 1
        simp at k0 k1
        have hown := hpc.mp
        have HOK := Lib.hid (seenB_ok of s k)
        have HHS : Hid (Maps.has (mapD (seenB of s k)) (klOf (c, B)) = decide ((c, B) ∈ seenB of s k)) := HOK.out.has (c, B) hc256
        have hkey : keyOf Try.prog 70 (.agg #[.int .u8 (c : Int), .bool B]) = some (klOf (c, B)) := klOf_key (c, B) hc256
        have HSZ : Hid (Maps.size (mapD (seenB of s k)) = (seenB of s k).length) := HOK.out.size
        have HAT : Hid ((c, B) ∈ seenB of s k → ∀ c', (mapD (seenB of s k)).atKey (klOf (c, B)) (.lit (.int .u8 0)) = .lit (.int .u8 c') → c' = (posL (seenB of s k) (c, B) : Int)) := fun hm c' h => by
          have := HOK.out.at_ (c, B) hm (.lit (.int .u8 0))
          rw [h] at this
          injection this with this
          injection this
        have HST : Hid ((c, B) ∈ seenB of s k → PdMem w (wc.setCell ⟨w.heap.size + 1 + 1 + 1, k, none⟩ (.int .u8 (posL (seenB of s k) (c, B) : Int))) cs #[.int .u64 (s.s0 : Int), .int .u64 (s.s1 : Int), .int .u64 (s.s2 : Int), .int .u64 (s.s3 : Int)] zs of s (k + 1)) := fun hm => by
          have := HPC.out.hit hlt (by rw [HKEY.out]; exact hm)
          rw [HKEY.out] at this
          exact this
        have HMS : Hid ((c, B) ∉ seenB of s k → ∀ w1, w1.ownsMap Try.prog 70 (plainElem Try.prog 5) (w.heap.size + 1 + 1 + 1 + 1) (k + 1) ((mapD (seenB of s k)).put (klOf (c, B)) (.lit (.int .u8 ((seenB of s k).length : Int)))) → wc.grownBy w1 (some (w.heap.size + 1 + 1 + 1 + 1)) →
            PdMem w (w1.setCell ⟨w.heap.size + 1 + 1 + 1, k, none⟩ (.int .u8 ((seenB of s k).length : Int))) cs #[.int .u64 (s.s0 : Int), .int .u64 (s.s1 : Int), .int .u64 (s.s2 : Int), .int .u64 (s.s3 : Int)] zs of s (k + 1)) := fun hm w1 ho hg => by
          have := HPC.out.miss (w1 := w1) hlt (by rw [HKEY.out]; exact hm) (by rw [HKEY.out]; exact ho) hg
          exact this
        have HOC : Hid (∀ W, Blk W (w.heap.size + 1 + 1 + 1) 25 (clCells (padL of s k) 0).toArray → ∃ v, W.cell? ⟨w.heap.size + 1 + 1 + 1, k, none⟩ = some v) := fun W hW => by
          rw [hW.cell, List.getElem?_toArray, clCells_at _ _ k (by rw [padL_len of s k (by omega)]; exact hlt)]
          exact ⟨_, rfl⟩
        have HLN : Hid ((seenB of s k).length ≤ 255) := by have := seenB_len of s k; show (seenB of s k).length ≤ 255; omega
        obtain ⟨D, hD⟩ : ∃ D, D = mapD (seenB of s k) := ⟨_, rfl⟩
        rw [← hD] at hown HHS HSZ HAT HMS
        obtain ⟨kl, hkl⟩ : ∃ kl, kl = klOf (c, B) := ⟨_, rfl⟩
        rw [← hkl] at hkey HHS HAT HMS
        clear hpc hD hkl HOK
        by_cases hm : (c, B) ∈ seenB of s k
        · have hhas : Maps.has D kl = true := by rw [HHS.out]; exact decide_eq_true hm
          have HA2 := Lib.hid (HAT.out hm)
          have HS2 := Lib.hid (HST.out hm)
          obtain ⟨ov, hov⟩ := HOC.out wc HPC.out.out
          have hof := HPC.out.out.frozen k
          clear HMS HAT HST HHS hm
          generalize posL (seenB of s k) (c, B) = p at *
          go_wp2_with (at_lookup; refine wpList_lookup_own_ok_int _ rfl _ _ _ rfl _ _ .u8 sideLaw Try.underlying68 Try.underlying5 (zeroU8 _) _ _ D rfl hown _ _ rfl hkey ?_)
          intro c' hat hwc
          have hcp := HA2.out c' hat
          subst hcp
          clear hat hwc
          go_wp2
          go_roundw
          case rel => exact ⟨k + 1, by omega, by go_num, HS2⟩
          case measure => simp [intOf]; omega
        · have hhas : Maps.has D kl = false := by rw [HHS.out]; exact decide_eq_false hm
          have HS2 := Lib.hid (HMS.out hm)
          have hsz := HSZ.out
          have hln := HLN.out
          have HOC2 : Hid (∀ w1, wc.grownBy w1 (some (w.heap.size + 1 + 1 + 1 + 1)) → (∃ v, w1.cell? ⟨w.heap.size + 1 + 1 + 1, k, none⟩ = some v) ∧ w1.frozen? ⟨w.heap.size + 1 + 1 + 1, k, none⟩ = false) := fun w1 hg => by
            have := HPC.out.out.kept hg (by intro e; injection e with e; omega)
            exact ⟨HOC.out w1 this, this.frozen k⟩
          clear HMS HAT HST HHS HSZ HLN hm HOC
          generalize (seenB of s k).length = p at *
          go_wp2_with (at_lookup; refine wpList_lookup_own_ok_int _ rfl _ _ _ rfl _ _ .u8 sideLaw Try.underlying68 Try.underlying5 (zeroU8 _) _ _ D rfl hown _ _ rfl hkey ?_)
          intro c' hat hwc
          clear hat hwc
          go_wp2_with (first | (at_len; refine wpList_len_own _ rfl _ _ rfl _ _ Try.underlying68 _ _ _ D rfl hown ?_; rw [hsz]) | (at_mapUpdate; refine wpList_mapUpdate_own _ rfl _ _ _ _ rfl _ _ sideLaw Try.underlying68 _ _ _ D rfl hown (by unfold maxLen; omega) _ _ _ rfl rfl hkey _ [] (plainElem_int Try.underlying5 (a := (p : Int)) (by simp [Lit.wf, IntKind.min, IntKind.max, IntKind.signed, IntKind.bits]; omega)) ?_; intro w1 hown1 hgrow1; obtain ⟨⟨ov, hov⟩, hof⟩ := HOC2.out w1 hgrow1; have HS3 := Lib.hid (HS2.out w1 hown1 hgrow1); clear hown1 hgrow1 hown))
          go_roundw
          case rel => exact ⟨k + 1, by omega, by go_num, HS3⟩
          case measure => simp [intOf]; omega
    · obtain rfl : k = 256 := by omega
      have hown := HP.out.mp
      have hsz : Maps.size (mapD (seenB of s 256)) = manyP of s := (seenB_ok of s 256).size
      obtain ⟨D, hD⟩ : ∃ D, D = mapD (seenB of s 256) := ⟨_, rfl⟩
      rw [← hD] at hown hsz
      have hb := HP.out.out
      rw [padL_end] at hb
      obtain ⟨n, hn⟩ : ∃ n, n = manyP of s := ⟨_, rfl⟩
      rw [← hn] at hsz
      have hov : wr.cell? ⟨w.heap.size + 1 + 1 + 1, 256, none⟩ = some (.int .i64 0) := by
        rw [hb.cell, List.getElem?_toArray]
        exact clCells_many _ _ (partedL_len of s)
      have hof := hb.frozen 256
      have hb2 := hb.set_ 256 (.int .i64 (n : Int))
      have he : ((clCells (partedL of s) 0).toArray).setIfInBounds 256 (.int .i64 (n : Int)) = (clCells (partedL of s) (n : Int)).toArray := clCells_many_set _ 0 n (partedL_len of s)
      rw [he] at hb2
      have hld := loadCl_run (partedL_len of s) hb2
      have hz2 : zs.size = 257 := by rw [HZ.out]; simp [clCells_len _ _ cl0_len]
      have hc2 : (clCells (partedL of s) (n : Int)).toArray.size = 257 := by simp [clCells_len _ _ (partedL_len of s)]
      have hr2 : Blk (wr.setCell ⟨w.heap.size + 1 + 1 + 1, 256, none⟩ (.int .i64 (n : Int))) (w.heap.size + 1 + 1) 25 zs := HP.out.res.other (by show w.heap.size + 1 + 1 ≠ w.heap.size + 1 + 1 + 1; omega) _
      have hst := storeCl_run hz2 hc2 (cl_one _ _) hr2
      have HR3 : Hid (Blk ((wr.setCell ⟨w.heap.size + 1 + 1 + 1, 256, none⟩ (.int .i64 (n : Int))).setRow (w.heap.size + 1 + 1) (clCells (partedL of s) (n : Int)).toArray) (w.heap.size + 1 + 1) 25 (clCells (partedL of s) (n : Int)).toArray) := hr2.setRow _
      have HL3 : Hid (Below w.heap.size w ((wr.setCell ⟨w.heap.size + 1 + 1 + 1, 256, none⟩ (.int .i64 (n : Int))).setRow (w.heap.size + 1 + 1) (clCells (partedL of s) (n : Int)).toArray)) := below_row (HP.out.low.setCell (p := ⟨w.heap.size + 1 + 1 + 1, 256, none⟩) (by show w.heap.size ≤ w.heap.size + 1 + 1 + 1; omega) _) (by omega) _
      have HC2 := Lib.hid hc2
      obtain ⟨rs, hrs⟩ : ∃ rs, rs = (clCells (partedL of s) (n : Int)).toArray := ⟨_, rfl⟩
      have HRS : Hid (rs = (clCells (partedL of s) (manyP of s : Int)).toArray) := by show _ = _; rw [hrs, hn]
      rw [← hrs] at hld hst HR3 HL3 HC2
      clear hb hb2 he hz2 hr2 hc2 hn hD hrs
      go_wp2_with (at_len; refine wpList_len_own _ rfl _ _ rfl _ _ Try.underlying68 _ _ _ D rfl hown ?_; rw [hsz])
      refine bodyPost_ret (results_cell1 rfl _ _ (w.heap.size + 1 + 1) _ _ _ _ rfl HR3.out Try.underlying25 rfl (by rw [HC2.out]; kernel_rfl)) rfl ?_
      exact ⟨by rw [HRS.out], HL3.out⟩
end Go.Proofs.Ytlaccbkhlkomhaa
