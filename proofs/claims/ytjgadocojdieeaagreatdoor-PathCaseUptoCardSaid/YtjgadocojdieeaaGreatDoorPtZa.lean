/-
  The contracts of path.isAlone, path.isTold, path.rightBox. Conditions: texts of at most 2^62 bytes; the library's variable holds some value.
-/
import Derived.Test.YtjgadocojdieeaaGreatDoorPtY
import Derived.Test.YtjgadocojdieeaaGreatDoorPtH
namespace Go.Proofs.YtjgadocojdieeaaGreatDoor
open Go.RowKit Go.Shelf

theorem ent_shown : Ent 81 := enters_of Tryz.func81 (by kernel_rfl) rfl
set_option maxRecDepth 100000 in
set_option maxHeartbeats 1000000 in
theorem index_any {k : Nat} {q : UInt8 → Bool} (hk : IsB k q) (ek : Ent k) (l : List UInt8) (n : Nat) (hn : n = l.length) (hnm : n ≤ 4611686018427387904) (a : Option Addr) (c : Nat) (w : World) (h : BytesAt w a l) : Calls Tryz.prog 109 #[.slice a n c, .func (.func k) #[] #[]] w fun e w' => ∃ z : Int, e = .returned (.int .i64 z) ∧ w' = w ∧ decide (0 ≤ z) = l.any q := by
  have ek' : ∀ args w, (callFunc k args).run Tryz.prog w = .ok (.enter k args) w := ek
  have HK := Lib.hid (fun c W => hk c W)
  have HN := Lib.hid hn
  have HB := Lib.hid h
  clear hk ek hn h
  have HYES : Hid (∀ i (hi : i < l.length), q l[i] = true → decide ((0 : Int) ≤ (i : Int)) = l.any q) := fun i hi hq => by
    rw [decide_eq_true (by omega), eq_comm, List.any_eq_true]
    exact ⟨l[i], List.getElem_mem hi, hq⟩
  go_enter Tryz.func109, Tryz.ntmps109
  go_wp2
  go_loopw [8] (fun i wr => ∃ j : Nat, j ≤ n ∧ i = .int .i64 j ∧ Hid ((l.take j).any q = false) ∧ wr = w) (fun i _ => n - (intOf i).toNat)
  case atStart => exact ⟨0, Nat.zero_le _, rfl, rfl, rfl⟩
  case round =>
    obtain ⟨j, hj, rfl, HA, rfl⟩ := hrel
    have hj0 : (0 : Int) ≤ (j : Int) := by omega
    by_cases hlt : j < n
    · have hjl : j < l.length := by rw [← HN.out]; exact hlt
      have hjz : (j : Int) < (n : Int) := by omega
      obtain ⟨g, off, rfl, hcell⟩ := BytesAt.at_ HB.out hjl
      have HFN := Lib.hid (fun W => HK.out l[j] W)
      have HY := Lib.hid (HYES.out j hjl)
      have HNX : Hid (q l[j] = false → (l.take (j + 1)).any q = false) := fun hq => by
        rw [List.take_succ_eq_append_getElem hjl, List.any_append, HA.out]
        simp [hq]
      generalize l[j] = u at *
      clear hjl
      cases hq : q u with
      | true =>
        rw [hq] at HFN
        have HO := Lib.hid (HY.out hq)
        clear hq HY HNX
        go_wp2_with (go_at_fn k; refine (HFN.out _).mono ?_; rintro e w1 ⟨rfl, rfl⟩)
        go_ret
        exact ⟨_, rfl, rfl, HO.out⟩
      | false =>
        rw [hq] at HFN
        have HO := Lib.hid (HNX.out hq)
        clear hq HY HNX
        go_wp2_with (go_at_fn k; refine (HFN.out _).mono ?_; rintro e w1 ⟨rfl, rfl⟩)
        go_roundw
        case rel => exact ⟨j + 1, by omega, by go_num, HO.out, trivial⟩
        case measure => simp [intOf]; omega
    · have hje : j = n := by omega
      have hjz : ¬ (j : Int) < (n : Int) := by omega
      have HO : Hid (decide ((0 : Int) ≤ -1) = l.any q) := by
        have h1 := HA.out
        rw [hje, HN.out, List.take_length] at h1
        show _ = _
        rw [h1]
        rfl
      clear hje HA
      go_wp2
      go_ret
      exact ⟨_, rfl, rfl, HO.out⟩
set_option maxRecDepth 100000 in
set_option maxHeartbeats 1000000 in
theorem contains_any {k : Nat} {q : UInt8 → Bool} (hk : IsB k q) (ek : Ent k) (l : List UInt8) (n : Nat) (hn : n = l.length) (hnm : n ≤ 4611686018427387904) (a : Option Addr) (c : Nat) (w : World) (h : BytesAt w a l) : Calls Tryz.prog 80 #[.slice a n c, .func (.func k) #[] #[]] w fun e w' => e = .returned (.bool (l.any q)) ∧ w' = w := by
  have HI := Lib.hid (index_any hk ek l n hn hnm a c w h)
  clear hk ek hn h
  go_enter Tryz.func80, Tryz.ntmps80
  go_wp2_with (go_at_call 109; refine HI.out.mono ?_; rintro e w1 ⟨z, rfl, rfl, hz⟩; have HZ := Lib.hid hz; clear hz HI)
  go_ret
  exact ⟨ret_bool HZ.out, rfl⟩
theorem any_bytes (W : World) (l : List UInt8) (hl : l.length ≤ maxLen) : BytesAt (Lib.bytesWorld W 5 (bs l)) (some ⟨W.heap.size, 0, none⟩) l := (BuW.new W l).bytes hl
set_option maxRecDepth 100000 in
set_option maxHeartbeats 1000000 in
theorem isAlone_any (loc d : List UInt8) (lit : Bool) (w : World) : Calls Tryz.prog 45 #[.agg (boxCells loc d lit)] w (SameOut w (decide (loc = postP) && decide (d = []) && !lit)) := by
  have HQ : Hid (∀ b w', b = (decide (loc = postP) && decide (d = []) && !lit) → Below w.heap.size w w' → SameOut w (decide (loc = postP) && decide (d = []) && !lit) (.returned (.bool b)) w') := fun b w' hb h => by subst hb; exact ⟨rfl, h⟩
  generalize SameOut w (decide (loc = postP) && decide (d = []) && !lit) = Q at *
  have hl := toL_eq loc postP
  have hd := toL_eq d []
  have HB : Hid (∀ o, Below w.heap.size w (w.alloc o)) := fun o => (Below.refl _ w).alloc (Nat.le_refl _) o
  unfold boxCells
  go_enter Tryz.func45, Tryz.ntmps45
  go_wp2
  all_goals refine HQ.out _ _ ?_ (HB.out _)
  all_goals simp only [bs_toL] at *
  all_goals simp_all [postP]
/-- a function that tells something of a text -/
def IsT (k : Nat) (q : List UInt8 → Bool) (m : Nat) : Prop := ∀ (l : List UInt8), l.length ≤ m → ∀ (w : World), ErrAt w ∧ ErrG < w.heap.size → Calls Tryz.prog k #[.string (bs l)] w fun e w' => e = .returned (.bool (q l)) ∧ Below w.heap.size w w'
theorem domain_is : IsT 9 fineB 4611686018427387904 := fun l hl w he => domain_fun l hl w he.1 he.2
theorem literal_is : IsT 11 wB 4611686018427387900 := fun l hl w he => literal_fun l hl w he.1 he.2
theorem ent_domain : Ent 9 := enters_of Tryz.func9 (by kernel_rfl) rfl
theorem ent_literal : Ent 11 := enters_of Tryz.func11 (by kernel_rfl) rfl
set_option maxRecDepth 100000 in
set_option maxHeartbeats 1000000 in
theorem isTold_any {k : Nat} {q : List UInt8 → Bool} {m : Nat} (hk : IsT k q m) (ek : Ent k) (l : List UInt8) (hl : l.length ≤ m) (hm : m ≤ 4611686018427387904) (w : World) (he : ErrAt w ∧ ErrG < w.heap.size) : Calls Tryz.prog 46 #[.string (bs l), .func (.func k) #[] #[]] w (SameOut w (toldB q l)) := by
  have ek' : ∀ args w, (callFunc k args).run Tryz.prog w = .ok (.enter k args) w := ek
  have HC := Lib.hid (hk l hl w he)
  have HS := Lib.hid (fun W => inSmall_any l (by omega) W)
  have HQ : Hid (∀ b w', b = toldB q l → Below w.heap.size w w' → SameOut w (toldB q l) (.returned (.bool b)) w') := fun b w' hb h => by subst hb; exact ⟨rfl, h⟩
  generalize SameOut w (toldB q l) = Q at *
  unfold toldB at HQ
  have hx := toL_eq l (low l)
  clear hk ek
  cases hq : q l with
  | false =>
    rw [hq] at HC HQ
    clear hq
    go_enter Tryz.func46, Tryz.ntmps46
    go_wp2_with (go_at_fn k; refine HC.out.mono ?_; rintro e w1 ⟨rfl, hb⟩; have HB := Lib.hid hb; clear hb)
    exact HQ.out _ _ rfl HB.out
  | true =>
    rw [hq] at HC HQ
    clear hq
    generalize decide (l = low l) = d at *
    go_enter Tryz.func46, Tryz.ntmps46
    go_wp2_with (first | (go_at_fn k; refine HC.out.mono ?_; rintro e w1 ⟨rfl, hb⟩; have HB := Lib.hid hb; clear hb) | (go_at_call 79; refine (HS.out _).mono ?_; rintro e w2 ⟨rfl, hb⟩; have HB2 := Lib.hid (low_trans HB.out hb); clear hb))
    exact HQ.out _ _ (by rw [Bool.true_and]) HB2.out
set_option maxRecDepth 100000 in
set_option maxHeartbeats 1000000 in
theorem rightBox_any (loc d : List UInt8) (lit : Bool) (hl : loc.length ≤ 4611686018427387900) (hd : d.length ≤ 4611686018427387900) (w : World) (he : ErrAt w ∧ ErrG < w.heap.size) : Calls Tryz.prog 47 #[.agg (boxCells loc d lit)] w (SameOut w (rightBoxD loc d lit)) := by
  obtain ⟨W1, hW1⟩ : ∃ W1, W1 = w.alloc (.cells (boxCells loc d lit) 24) := ⟨_, rfl⟩
  obtain ⟨g1, hg1⟩ : ∃ g1, g1 = w.heap.size := ⟨_, rfl⟩
  have hb1 : Below w.heap.size w W1 := by rw [hW1]; exact (Below.refl _ w).alloc (Nat.le_refl _) _
  have HK1 : Hid (Blk W1 g1 24 (boxCells loc d lit)) := by rw [hW1, hg1]; exact Blk.new _ _ _
  have HL1 := Lib.hid hb1
  have HE := Lib.hid he
  have hcv := Lib.run_convert_string_bytes (P := Tryz.prog) W1 9 40 5 (bs loc) (u := .string) Tryz.underlying9 Tryz.underlying40 Tryz.underlying5
  rw [bs_size] at hcv
  have HBY := Lib.hid (any_bytes W1 loc (by unfold maxLen; omega))
  have HL2 := Lib.hid (low_trans hb1 (bytesWorld_low W1 5 (bs loc)))
  have HK2 := Lib.hid (HK1.out.below (bytesWorld_low W1 5 (bs loc)) HK1.out.lt)
  have HCF := Lib.hid (fun cp => contains_any isNotShown_any ent_shown loc loc.length rfl (by omega) (some ⟨W1.heap.size, 0, none⟩) cp _ HBY.out)
  have HQ : Hid (∀ b w', b = rightBoxD loc d lit → Below w.heap.size w w' → SameOut w (rightBoxD loc d lit) (.returned (.bool b)) w') := fun b w' hb h => by subst hb; exact ⟨rfl, h⟩
  have HTD := Lib.hid (fun W (hW : Below w.heap.size w W) => isTold_any domain_is ent_domain d (by omega) (Nat.le_refl _) W (ErrAt.later he hW))
  have HTL := Lib.hid (fun W (hW : Below w.heap.size w W) => isTold_any literal_is ent_literal d hd (by omega) W (ErrAt.later he hW))
  generalize SameOut w (rightBoxD loc d lit) = Q at *
  generalize grownCap W1 loc.length 0 5 = cp at *
  generalize Lib.bytesWorld W1 5 (bs loc) = W2 at *
  unfold rightBoxD at HQ
  have HW1 := Lib.hid hW1
  have HG1 := Lib.hid hg1
  have hsz : ((bs loc).size : Int) = (loc.length : Int) := rfl
  unfold boxCells at HW1 HK1 HK2 ⊢
  obtain ⟨x0, x1, x2⟩ : W1.cell? ⟨g1, 0, none⟩ = some (.string (bs loc)) ∧ W1.cell? ⟨g1, 1, none⟩ = some (.string (bs d)) ∧ W1.cell? ⟨g1, 2, none⟩ = some (.bool lit) := ⟨HK1.out.cell 0, HK1.out.cell 1, HK1.out.cell 2⟩
  obtain ⟨y0, y1, y2⟩ : W2.cell? ⟨g1, 0, none⟩ = some (.string (bs loc)) ∧ W2.cell? ⟨g1, 1, none⟩ = some (.string (bs d)) ∧ W2.cell? ⟨g1, 2, none⟩ = some (.bool lit) := ⟨HK2.out.cell 0, HK2.out.cell 1, HK2.out.cell 2⟩
  clear hW1 hg1 hb1 he
  by_cases hlen : loc.length ≤ 64
  · have hlz : ¬ (64 : Int) < (loc.length : Int) := by omega
    have hld : decide ((64 : Int) < (loc.length : Int)) = false := decide_eq_false hlz
    rw [decide_eq_true hlen] at HQ
    clear hlen hlz hl hd
    cases hany : loc.any notB with
    | true =>
      rw [hany] at HQ HCF
      clear hany
      go_enter Tryz.func47, Tryz.ntmps47
      go_upto_region 1 with (fail)
      rw [← HW1.out, ← HG1.out]
      go_wp2_with (go_at_call 80; refine (HCF.out _).mono ?_; rintro e w3 ⟨rfl, rfl⟩)
      exact HQ.out _ _ rfl HL2.out
    | false =>
      rw [hany] at HQ HCF
      clear hany
      cases lit with
      | true =>
        go_enter Tryz.func47, Tryz.ntmps47
        go_upto_region 1 with (fail)
        rw [← HW1.out, ← HG1.out]
        go_wp2_with (first | (go_at_call 80; refine (HCF.out _).mono ?_; rintro e w3 ⟨rfl, rfl⟩) | (go_at_call 46; refine (HTL.out _ HL2.out).mono ?_; rintro e w4 ⟨rfl, hb⟩; have HL4 := Lib.hid (low_trans HL2.out hb); clear hb))
        exact HQ.out _ _ (by simp) HL4.out
      | false =>
        go_enter Tryz.func47, Tryz.ntmps47
        go_upto_region 1 with (fail)
        rw [← HW1.out, ← HG1.out]
        go_wp2_with (first | (go_at_call 80; refine (HCF.out _).mono ?_; rintro e w3 ⟨rfl, rfl⟩) | (go_at_call 46; refine (HTD.out _ HL2.out).mono ?_; rintro e w4 ⟨rfl, hb⟩; have HL4 := Lib.hid (low_trans HL2.out hb); clear hb))
        exact HQ.out _ _ (by simp) HL4.out
  · have hlz : (64 : Int) < (loc.length : Int) := by omega
    have hld : decide ((64 : Int) < (loc.length : Int)) = true := decide_eq_true hlz
    rw [decide_eq_false hlen] at HQ
    clear hlen
    go_enter Tryz.func47, Tryz.ntmps47
    go_upto_region 1 with (fail)
    rw [← HW1.out, ← HG1.out]
    go_wp2
    exact HQ.out _ _ rfl HL1.out
end Go.Proofs.YtjgadocojdieeaaGreatDoor
