/-
  The contract of frankinglaw10.awake. No conditions.
-/
import Derived.Test.YtkgfjapflpjdbaaTbZ
namespace Go.Proofs.Ytkgfjapflpjdbaa
open Go.RowKit

theorem wpList_append_full_zeros {P : Program} {w : World} {ops : Array Oper} {rest : List Oper} {o : Oper} {act : Act} {Q : Exit → Act → World → Prop} (hgd : o.guard = none) (s x : Operand) (t tn : TypeId)
    (ho : o.op = .call { callee := .builtin .append, args := #[s, x], argTypes := #[t, tn] })
    (base : Nat) (e : TypeId) (i : TypeInfo) (z : Value) (k kn : IntKind) (ht : P.underlying t = some (.slice e)) (htn : P.underlying tn = some (.int kn)) (hi : P.info? e = some i) (hz : i.zero = some z)
    (hsize : i.size = 1) (hby : i.bytes = 1) (hzs : z.cells.size = 1)
    (g n : Nat) (xs : List Value) (hs : act.eval s = .slice (some ⟨g, 0, none⟩) n n) (hxl : xs.length = n) (holds : ∀ j u, xs[j]? = some u → w.cell? ((⟨g, 0, none⟩ : Addr).add j) = some u)
    (m : Nat) (news : List Value) (hx : act.eval x = .int k m) (hl : news.length = m) (hm : 0 < m) (hzc : (Builtin.zeroCells z.cells m).toList = news)
    (h63 : n + m ≤ maxLen) (hbytes : n + m ≤ 140737488355328) (hbase : base ≤ w.heap.size)
    (h : ∀ v' w', w'.ownsRow base e 1 v' (n + m) (xs ++ news) → w.grownBy w' none → wpList P ops Q rest (act.put o.dst v') w') : wpList P ops Q (o :: rest) act w := by
  refine wpList_plain hgd fun K hK => ?_
  obtain ⟨v', w', hr, h2, h3⟩ := run_append_full_zeros (P := P) w base t tn o.type e i z k kn ht htn hi hz hsize hby hzs g n xs hxl holds m news hl hm hzc h63 hbytes hbase
  unfold Oper.wp execOp
  simp only [ho, resolve, invoke, builtin, Sem.run_bind, Sem.run_pure, Result.andThen_ok, List.map_toArray, List.map_cons, List.map_nil, hs, hx, hr]
  exact hK _ _ (h v' w' h2 h3)
def awH : List UInt8 := [70, 84, 1, 0, 0, 1, 1, 1, 97] ++ List.replicate 256 0
theorem aw_len : awB.length = 268 := by kernel_rfl
theorem aw_lenH : awH.length = 265 := by kernel_rfl
theorem aw_mapH : awH.map byteV = ([.int .u8 70, .int .u8 84, .int .u8 1, .int .u8 0, .int .u8 0, .int .u8 1, .int .u8 1, .int .u8 1, .int .u8 97] : List Value) ++ (List.replicate 256 (0 : UInt8)).map byteV := by kernel_rfl
theorem aw_mapB : awB.map byteV = awH.map byteV ++ ([.int .u8 1, .int .u8 0, .int .u8 1] : List Value) := by kernel_rfl
theorem aw_read (W : World) (g cap : Nat) (h : BytesAt W (some ⟨g, 0, none⟩) awB) (hc : 268 ≤ cap) (hm : cap ≤ maxLen) : Calls Try.prog 15 #[.slice (some ⟨g, 0, none⟩) 268 cap] W fun e w' => ∃ lie, e = .returned (.tuple #[.agg (tabCells awT lie).toArray, .int .i64 0]) ∧ Below W.heap.size W w' ∧ TabAt w' awT lie := by
  have := read_any _ awB cap W h (by rw [aw_len]; exact hc) hm
  unfold readZ at this
  rw [aw_readT, aw_readB, aw_len] at this
  exact this
theorem aw_read_cut (W : World) (g cap : Nat) (h : BytesAt W (some ⟨g, 0, none⟩) awB) (hc : 268 ≤ cap) (hm : cap ≤ maxLen) : Calls Try.prog 15 #[.slice (some ⟨g, 0, none⟩) 267 cap] W fun e w' => ∃ lie, e = .returned (.tuple #[.agg (tabCells zeroTab lie).toArray, .int .i64 100]) ∧ Below W.heap.size W w' ∧ TabAt w' zeroTab lie := by
  have hl : (awB.take 267).length = 267 := by rw [List.length_take, aw_len]; rfl
  have h2 : BytesAt W (some ⟨g, 0, none⟩) (awB.take 267) := by
    obtain ⟨g', off, e1, e2, e3⟩ := RowAt.row h (by rw [List.length_map, aw_len]; decide)
    refine ⟨by rw [List.length_map, hl]; decide, fun _ => ⟨g', off, e1, e2, fun j hj => ?_⟩⟩
    rw [List.length_map, hl] at hj
    rw [e3 j (by rw [List.length_map, aw_len]; omega), List.getElem_map, List.getElem_map, List.getElem_take]
  have := read_any _ (awB.take 267) cap W h2 (by rw [hl]; omega) hm
  unfold readZ readT at this
  rw [aw_cut, hl] at this
  exact this
structure AwW (w W : World) (B5 g1 g4 : Nat) (lie : Lie) : Prop where
  tab1 : TabIn W (w.heap.size + 3) awT (awL w.heap.size)
  tab5 : TabIn W B5 awT lie
  b1 : BytesAt W (some ⟨g1, 0, none⟩) awB
  b4 : BytesAt W (some ⟨g4, 0, none⟩) awB
  low : Below w.heap.size w W
theorem AwW.later {w W W2 : World} {B5 g1 g4 : Nat} {lie : Lie} (h : AwW w W B5 g1 g4 lie) (hb : Below W.heap.size W W2) : AwW w W2 B5 g1 g4 lie :=
  ⟨h.tab1.below hb, h.tab5.below hb, RowAt.below h.b1 hb, RowAt.below h.b4 hb, h.low.trans (hb.mono h.low.size)⟩
theorem low_trans {w a b : World} (h : Below w.heap.size w a) (k : Below a.heap.size a b) : Below w.heap.size w b := h.trans (k.mono h.size)
attribute [local go_sem ↓] loadOp_C loadOp_T allocOp_T storeOp_T buildOp_T buildOp_C
set_option maxRecDepth 100000 in
set_option maxHeartbeats 2000000 in
theorem awake_any (w : World) : Calls Try.prog 8 #[] w fun e w' => e = .returned (.bool true) ∧ Below w.heap.size w w' := by
  obtain ⟨i0, hi, hz0, hz1, hz2⟩ := info_parts info8
  obtain ⟨Z, hZ⟩ : ∃ Z, (tabCells zeroTab zeroLie).toArray = Z := ⟨_, rfl⟩
  have hzs : Z.size = 261 := by rw [← hZ, List.size_toArray, tab_len zeroTab zeroLie List.length_replicate]
  have HRUN0 := alloc_run
  rw [hZ] at HRUN0
  have HBC := aw_buildC
  have HBT := fun W => aw_buildT W w.heap.size
  -- the table that is laid first
  obtain ⟨WA, hWA⟩ : ∃ WA, ((w.alloc (.cells #[.int .i64 0] 3)).alloc (.cells #[.int .i64 0] 3)).alloc (.cells #[.string { data := #[97] }] 9) = WA := ⟨_, rfl⟩
  have hsA : WA.heap.size = w.heap.size + 3 := by rw [← hWA]; simp
  have hbA : Below w.heap.size w WA := by
    rw [← hWA]
    exact (((Below.refl _ _).alloc (Nat.le_refl _) _).alloc (by simp) _).alloc (by simp; omega) _
  have htA : TabAt WA awT (awL w.heap.size) := by
    have one : ∀ (k : Nat) (v : Value) (h : k < WA.heap.size), WA.cell? ⟨k, 0, none⟩ = some v → RowAt WA (some ⟨k, 0, none⟩) [v] := fun k v h hc => ⟨by simp [maxLen], fun _ => ⟨k, 0, rfl, h, fun j hj => by
      simp at hj
      subst hj
      exact hc⟩⟩
    refine ⟨List.length_replicate, one _ _ (by omega) ?_, one _ _ (by omega) ?_, one _ _ (by omega) ?_, fun s hs => by simp [awT] at hs; subst hs; decide⟩
    · rw [← hWA]
      exact (World.cell?_alloc_lt _ _ ⟨w.heap.size, 0, none⟩ (by simp; omega)).trans ((World.cell?_alloc_lt _ _ ⟨w.heap.size, 0, none⟩ (by simp)).trans ((Blk.new w 3 #[.int .i64 0]).cell 0))
    · rw [← hWA]
      have := (Blk.new (w.alloc (.cells #[.int .i64 0] 3)) 3 #[.int .i64 0]).cell 0
      rw [World.size_alloc] at this
      exact (World.cell?_alloc_lt _ _ ⟨w.heap.size + 1, 0, none⟩ (by simp)).trans this
    · rw [← hWA]
      have := (Blk.new ((w.alloc (.cells #[.int .i64 0] 3)).alloc (.cells #[.int .i64 0] 3)) 9 #[.string { data := #[97] }]).cell 0
      rw [World.size_alloc, World.size_alloc] at this
      exact this
  have hm := tab_made WA awT (awL w.heap.size) Z hzs htA
  rw [hsA] at hm
  obtain ⟨X, hX⟩ : ∃ X, (tabCells awT (awL w.heap.size)).toArray = X := ⟨_, rfl⟩
  rw [hX] at hm HBT
  obtain ⟨hst, hin, hbel⟩ := hm
  have HX := Lib.hid hX
  obtain ⟨W1, hW1⟩ : ∃ W1, (WA.alloc (.cells Z 30)).setRow (w.heap.size + 3) X = W1 := ⟨_, rfl⟩
  rw [hW1] at hst hin hbel
  have HIN := Lib.hid hin
  have HB1 : Hid (Below w.heap.size w W1) := hbA.trans (hbel.mono (by omega))
  have hld := hin.read.all
  rw [hX] at hld
  have HPK : Hid (Calls Try.prog 13 #[.agg X] W1 fun e w' => ∃ v, e = .returned (.tuple #[v, .int .i64 0]) ∧ OutAt W1 w' v awB) := by
    have := pack_yes awT _ X hX W1 hin.at_ aw_right
    rw [aw_pack] at this
    exact this
  have hsB : ∀ o, (WA.alloc o).heap.size = w.heap.size + 4 := fun o => by rw [World.size_alloc, hsA]
  clear hin hbel hbA htA hX hW1
  obtain ⟨C, hC⟩ : ∃ C, awC = C := ⟨_, rfl⟩
  rw [hC] at HBC HBT
  have HC := Lib.hid hC
  clear hC hZ
  go_enter Try.func8, Try.ntmps8
  go_wp2_with (first
    | (go_at_call 13; refine HPK.out.mono ?_; rintro e w2 ⟨v1, rfl, ho1⟩; have HO1 := Lib.hid ho1; clear ho1)
    | (at_builtin; refine wpList_append_full_zeros rfl _ _ 31 3 rfl w2.heap.size 5 i0 (.int .u8 0) .i64 .i64 Try.underlying31 Try.underlying3 hi hz0 hz1 hz2 rfl w2.heap.size 9 [.int .u8 70, .int .u8 84, .int .u8 1, .int .u8 0, .int .u8 0, .int .u8 1, .int .u8 1, .int .u8 1, .int .u8 97] rfl rfl ?c1 256 ((List.replicate 256 (0 : UInt8)).map byteV) rfl (by rw [List.length_map, List.length_replicate]) (by decide) aw_zero (by decide) (by decide) ?c5 ?_))
  case c1 =>
    intro j u hj
    rw [Addr.add_mid, Nat.zero_add]
    exact ((Blk.new w2 5 _).cell j).trans (by simpa using hj)
  case c5 => simp
  intro v3 w3 hown3 hgrow3
  have HO3 : Hid (OutAt w2 w3 v3 awH) := by
    refine ⟨?_, ((Below.refl _ _).alloc (Nat.le_refl _) _).grown hgrow3 (by simp) (fun k hk => by cases hk)⟩
    rw [aw_lenH, aw_mapH]
    exact hown3
  clear hown3 hgrow3
  go_wp2_with (at_builtin; refine wpList_append_own _ rfl _ _ 31 rfl w2.heap.size 5 i0 (.int .u8 0) 1 1 Try.underlying31 hi hz0 hz1 hz2 rfl (by decide) _ _ _ rfl (HO3.out.own.alloc _) ⟨w3.heap.size, 0, none⟩ 3 3 [.int .u8 1, .int .u8 0, .int .u8 1] rfl rfl ?c1 ?c2 ?c3 ?c4 ?c5 ?_)
  case c1 =>
    intro j u hj
    match j, hj with
    | 0, hj => simp at hj; subst hj; simp [Addr.add]
    | 1, hj => simp at hj; subst hj; simp [Addr.add]
    | 2, hj => simp at hj; subst hj; simp [Addr.add]
  case c2 => intro u hu; simp at hu; rcases hu with rfl | rfl | rfl <;> rfl
  case c3 => rw [aw_lenH]; decide
  case c4 => rw [aw_lenH]; decide
  case c5 => have := HO3.out.low.size; simp; omega
  intro v4 w4 hown4 hgrow4 _
  have HO4 : Hid (OutAt w2 w4 v4 awB) := by
    refine (HO3.out.alloc _).grown ?_ hgrow4
    rw [aw_mapB, aw_len]
    rw [aw_lenH] at hown4
    exact hown4
  clear hown4 hgrow4
  obtain ⟨g1, cap1, rfl, hbv1, hcv1, hmv1⟩ := own_bytes HO1.out.own (by rw [aw_len]; decide)
  obtain ⟨g4, cap4, rfl, hbv4, hcv4, hmv4⟩ := own_bytes HO4.out.own (by rw [aw_len]; decide)
  rw [aw_len] at hcv1 hcv4 ⊢
  have HB4 : Hid (BytesAt w4 (some ⟨g4, 0, none⟩) awB) := hbv4
  have HRD : Hid (∀ W, BytesAt W (some ⟨g4, 0, none⟩) awB → Calls Try.prog 15 #[.slice (some ⟨g4, 0, none⟩) 268 cap4] W fun e w' => ∃ lie, e = .returned (.tuple #[.agg (tabCells awT lie).toArray, .int .i64 0]) ∧ Below W.heap.size W w' ∧ TabAt w' awT lie) := fun W hW => aw_read W g4 cap4 hW hcv4 hmv4
  have HRC : Hid (∀ W, BytesAt W (some ⟨g4, 0, none⟩) awB → Calls Try.prog 15 #[.slice (some ⟨g4, 0, none⟩) 267 cap4] W fun e w' => ∃ lie, e = .returned (.tuple #[.agg (tabCells zeroTab lie).toArray, .int .i64 100]) ∧ Below W.heap.size W w' ∧ TabAt w' zeroTab lie) := fun W hW => aw_read_cut W g4 cap4 hW hcv4 hmv4
  have HK4 : Hid (Below w2.heap.size w2 w4) := HO4.out.low
  have HK2 : Hid (Below W1.heap.size W1 w2) := HO1.out.low
  have HBV1 := Lib.hid hbv1
  obtain ⟨S, hS⟩ : ∃ S, bs awB = S := ⟨_, rfl⟩
  have HF : Hid (∀ W B5 lie, AwW w W B5 g1 g4 lie → (convert 31 9 (.slice (some ⟨g1, 0, none⟩) 268 cap1)).run Try.prog W = .ok (.string S) W ∧ (convert 31 9 (.slice (some ⟨g4, 0, none⟩) 268 cap4)).run Try.prog W = .ok (.string S) W ∧ (LoadOp 30 (.pointer (some ⟨w.heap.size + 3, 0, none⟩))).run Try.prog W = .ok (.agg X) W ∧ (LoadOp 30 (.pointer (some ⟨B5, 0, none⟩))).run Try.prog W = .ok (.agg (tabCells awT lie).toArray) W) := fun W B5 lie h => by
    have h1 := conv_any W _ awB cap1 h.b1
    have h2 := conv_any W _ awB cap4 h.b4
    have h3 := h.tab1.read.all
    rw [aw_len, hS] at h1 h2
    rw [HX.out] at h3
    exact ⟨h1, h2, h3, h.tab5.read.all⟩
  have HSM : Hid (∀ W B5 lie, AwW w W B5 g1 g4 lie → Calls Try.prog 17 #[.agg X, .agg (tabCells awT lie).toArray] W fun e w' => e = .returned (.bool true) ∧ Below W.heap.size W w') := fun W B5 lie h => by
    have := same_refl awT (awL w.heap.size) lie awC rfl W h.tab1.at_ h.tab5.at_ aw_eq
    rw [HX.out] at this
    exact this
  have HS0 : Hid (∀ W B5 lie, AwW w W B5 g1 g4 lie → Calls Try.prog 11 #[.agg X, .int .i64 0, .int .u8 7] W fun e w' => e = .returned (.int .i64 0) ∧ Below W.heap.size W w') := fun W B5 lie h => by
    have := step_any awT _ X HX.out 0 7 W h.tab1.at_
    rw [aw_step0] at this
    exact this
  have HS1 : Hid (∀ W B5 lie, AwW w W B5 g1 g4 lie → Calls Try.prog 11 #[.agg X, .int .i64 1, .int .u8 7] W fun e w' => e = .returned (.int .i64 (-1)) ∧ Below W.heap.size W w') := fun W B5 lie h => by
    have := step_any awT _ X HX.out 1 7 W h.tab1.at_
    rw [aw_step1] at this
    exact this
  clear hS
  have HZS := Lib.hid hzs
  have hm4 : cap4 ≤ 9223372036854775807 := by simpa [maxLen] using hmv4
  clear HO1 HO3 HO4 hbv1 hbv4 HPK HBC HBT hst hld hsA hsB hWA hzs hmv1 hmv4 hcv1
  have TOK : Hid True := trivial
  go_wp2_with (first
    | (clear TOK; go_at_call 15; refine (HRD.out _ HB4.out).mono ?_; rintro e w5 ⟨lie5, rfl, hb5, ht5⟩; obtain ⟨e5, hin5, hbe5⟩ := tab_made w5 awT lie5 Z HZS.out ht5; have HIN5 := Lib.hid hin5; have HB5 := Lib.hid (hb5.trans (hbe5.mono hb5.size)); have HB45 : Hid (BytesAt _ (some ⟨g4, 0, none⟩) awB) := RowAt.below HB4.out HB5.out; have HAW := Lib.hid (AwW.mk (w := w) (((HIN.out.below HK2.out).below HK4.out).below HB5.out) HIN5.out (RowAt.below (RowAt.below HBV1.out HK4.out) HB5.out) HB45.out (low_trans (low_trans (low_trans HB1.out HK2.out) HK4.out) HB5.out)); clear hb5 hbe5 hin5 ht5)
    | (go_at_call 15; refine (HRC.out _ HB45.out).mono ?_; rintro e w7 ⟨lie7, rfl, hb7, ht7⟩; obtain ⟨e7, hin7, hbe7⟩ := tab_made w7 zeroTab lie7 Z HZS.out ht7; have HAW7 := Lib.hid (HAW.out.later (hb7.trans (hbe7.mono hb7.size))); obtain ⟨q1, q2, q3, q4⟩ := HF.out _ _ _ HAW7.out; clear hb7 hbe7 hin7 ht7)
    | (go_at_call 17; refine (HSM.out _ _ _ HAW7.out).mono ?_; rintro e w9 ⟨rfl, hb9⟩; have HAW9 := Lib.hid (HAW7.out.later hb9); have q9 := (HF.out _ _ _ HAW9.out).2.2.1; have TOK2 : Hid True := trivial; clear hb9)
    | (clear TOK2; go_at_call 11; refine (HS0.out _ _ _ HAW9.out).mono ?_; rintro e w10 ⟨rfl, hb10⟩; have HAW10 := Lib.hid (HAW9.out.later hb10); have q10 := (HF.out _ _ _ HAW10.out).2.2.1; clear hb10)
    | (go_at_call 11; refine (HS1.out _ _ _ HAW10.out).mono ?_; rintro e w11 ⟨rfl, hb11⟩; have HAW11 := Lib.hid (HAW10.out.later hb11); clear hb11))
  go_ret
  exact ⟨rfl, HAW11.out.low⟩
end Go.Proofs.Ytkgfjapflpjdbaa
