/-
  Merged texts (RdA, PrF, PrG, PrH, RdB, RdC, RdD, RdE, RdF, RdG), each under a head of its own that says what it proves and under which conditions.
-/
import Derived.Test.YtodenbimeojgdaaGreatDoorM03
import Derived.Test.YtodenbimeojgdaaGreatDoorM02
import Derived.Lib.ConvBytes
import Derived.Laws.IdiomStrings
import Derived.StillTailTactics
import Derived.Deep.RegionHeld3
/-
  The contracts of the parser's questions: slices.Contains of kinds, stands, place. Conditions: the reader and the tokens lie in memory; at most 200000 tokens.
-/
namespace Go.Proofs.YtodenbimeojgdaaGreatDoor
open Go.RowKit

/-- kinds in memory -/
def KindsAt (w : World) (b : Nat) (ks : List Int) : Prop := ∀ i k, ks[i]? = some k → w.cell? ⟨b, i, none⟩ = some (.int .u8 k)
theorem KindsAt.drewN {w : World} {b : Nat} {ks : List Int} (h : KindsAt w b ks) (m : Nat) : KindsAt (w.drewN m) b ks := fun i k hk => by
  rw [World.cell?_drewN]
  exact h i k hk

/-- where a number stands first -/
def firstOf (k : Int) : List Int → Int
  | [] => -1
  | x :: r => if k = x then 0 else if firstOf k r < 0 then -1 else firstOf k r + 1
theorem firstOf_lo (k : Int) (ks : List Int) : -1 ≤ firstOf k ks := by
  induction ks with
  | nil => simp [firstOf]
  | cons x r ih => rw [firstOf]; split <;> (try split) <;> omega
theorem firstOf_contains (k : Int) (ks : List Int) : decide (0 ≤ firstOf k ks) = ks.contains k := by
  induction ks with
  | nil => rfl
  | cons x r ih =>
    have := firstOf_lo k r
    rw [firstOf, List.contains_cons, ← ih]
    by_cases h : k = x
    · simp [h]
    · rw [if_neg h]
      by_cases h2 : firstOf k r < 0
      · rw [if_pos h2, show (k == x) = false from by simpa using h]
        simp only [Bool.false_or, decide_eq_decide]
        omega
      · rw [if_neg h2, show (k == x) = false from by simpa using h]
        simp only [Bool.false_or, decide_eq_decide]
        omega
theorem firstOf_at (k : Int) : ∀ (ks : List Int) (i : Nat) (x : Int), ks[i]? = some x → k = x → (∀ j y, j < i → ks[j]? = some y → k ≠ y) → firstOf k ks = i := by
  intro ks
  induction ks with
  | nil => intro i x h; simp at h
  | cons a r ih =>
    intro i x h hk hno
    cases i with
    | zero => simp at h; subst h; simp [firstOf, hk]
    | succ i =>
      have h1 : k ≠ a := hno 0 a (by omega) rfl
      have h2 := ih i x (by simpa using h) hk (fun j y hj hy => hno (j + 1) y (by omega) (by simpa using hy))
      rw [firstOf, if_neg h1, h2, if_neg (by omega)]
      omega
theorem firstOf_no (k : Int) : ∀ (ks : List Int), (∀ (j : Nat) (y : Int), ks[j]? = some y → k ≠ y) → firstOf k ks = -1 := by
  intro ks
  induction ks with
  | nil => intro _; rfl
  | cons a r ih =>
    intro hno
    have h1 : k ≠ a := hno 0 a rfl
    have h2 := ih (fun j y hy => hno (j + 1) y (by simpa using hy))
    rw [firstOf, if_neg h1, h2, if_pos (by omega)]

set_option maxHeartbeats 1000000 in
theorem slIndex_any (b c : Nat) (ks : List Int) (k : Int) (hn : ks.length ≤ 1000) (w : World) (hk : KindsAt w b ks) :
    Calls Tryz.prog 133 #[.slice (some ⟨b, 0, none⟩) ks.length c, .int .u8 k] w fun e w' => e = .returned (.int .i64 (firstOf k ks)) ∧ w = w' := by
  have HA := Lib.hid (fun i x => firstOf_at k ks i x)
  have HN := Lib.hid (firstOf_no k ks)
  have HK := Lib.hid hk
  clear hk
  generalize hlen : ks.length = n at *
  have HL := Lib.hid hlen
  clear hlen
  generalize firstOf k ks = R at *
  go_enter Tryz.func133, Tryz.ntmps133
  go_wp2
  go_loop [5, 8] (fun _ i => ∃ j : Nat, j ≤ n ∧ i = .int .i64 j ∧ Hid (∀ (x : Nat) (y : Int), x < j → ks[x]? = some y → k ≠ y)) (fun _ i => n - (intOf i).toNat)
  case atStart => exact ⟨0, Nat.zero_le _, rfl, show ∀ (x : Nat) (y : Int), _ from fun x y h => by omega⟩
  case round =>
    obtain ⟨j, hj, rfl, HJ⟩ := hrel
    by_cases hlt : j < n
    · obtain ⟨y, hy⟩ : ∃ y, ks[j]? = some y := ⟨_, List.getElem?_eq_getElem (by rw [HL.out]; exact hlt)⟩
      have hcell := HK.out j y hy
      have HY := Lib.hid hy
      clear hy
      have hlt' : (j : Int) < n := by omega
      have h0' : (0 : Int) ≤ j := by omega
      cases heq : (k == y) with
      | true =>
        have HR := Lib.hid (HA.out j y HY.out (by simpa using heq) HJ.out)
        go_wp2
        go_ret
        exact ⟨ret_int HR.out.symm, rfl⟩
      | false =>
        have HJ' : Hid (∀ (x : Nat) (z : Int), x < j + 1 → ks[x]? = some z → k ≠ z) := by
          show ∀ (x : Nat) (z : Int), _
          intro x z hx hz
          by_cases hxj : x = j
          · subst hxj
            rw [HY.out] at hz
            injection hz with hz
            subst hz
            simpa using heq
          · exact HJ.out x z (by omega) hz
        clear HJ
        go_wp2
        go_round
        case rel => exact ⟨j + 1, by omega, by go_num, HJ'⟩
        case measure => simp [intOf]; omega
    · have HR : Hid (R = -1) := by
        show R = -1
        refine HN.out (fun x y hy => HJ.out x y ?_ hy)
        have := (List.getElem?_eq_some_iff.1 hy).1
        rw [HL.out] at this
        omega
      go_wp2
      go_ret
      exact ⟨ret_int HR.out.symm, rfl⟩
set_option maxHeartbeats 400000 in
theorem slContains_any (b c : Nat) (ks : List Int) (k : Int) (hn : ks.length ≤ 1000) (w : World) (hk : KindsAt w b ks) :
    Calls Tryz.prog 111 #[.slice (some ⟨b, 0, none⟩) ks.length c, .int .u8 k] w fun e w' => e = .returned (.bool (ks.contains k)) ∧ w = w' := by
  have HC := Lib.hid (firstOf_contains k ks)
  have HI := Lib.hid (slIndex_any b c ks k hn w hk)
  clear hk
  generalize ks.contains k = R at *
  generalize firstOf k ks = F at *
  go_enter Tryz.func111, Tryz.ntmps111
  go_wp2_with (go_at_call 133; refine HI.out.mono ?_; rintro e w' ⟨rfl, rfl⟩)
  go_ret
  exact ⟨ret_bool HC.out, rfl⟩

/-- the reader in a block: its tokens, its place, its groups -/
structure Rd (w : World) (r : Nat) (A : Option Addr) (n c : Nat) (toks : List Tk) (at_ : Nat) (vo : Value) : Prop where
  blk : Blk w r 70 #[.slice A n c, .int .i64 at_, vo]
  row : TokRow w (.slice A n c) toks
  len : toks.length = n
  far : ∀ a, A = some a → a.block < r
  le : at_ ≤ n
  most : n ≤ 200000

set_option maxHeartbeats 2000000 in
theorem stands_yes (w : World) (r : Nat) (A : Option Addr) (n c : Nat) (toks : List Tk) (at_ : Nat) (vo : Value) (h : Rd w r A n c toks at_ vo) (b kc : Nat) (ks : List Int) (hk : KindsAt w b ks) (hkn : ks.length ≤ 1000) :
    Calls Tryz.prog 68 #[.pointer (some ⟨r, 0, none⟩), .slice (some ⟨b, 0, none⟩) ks.length kc] w fun e w' => e = .returned (.bool (standsP toks at_ ks)) ∧ ∃ m, w' = w.drewN m := by
  have HR : Hid (standsP toks at_ ks = match toks[at_]? with | none => false | some t => ks.contains t.kind) := show _ = _ from rfl
  have hcell := h.blk.cell
  have hmost := h.most
  have HROW := Lib.hid h.row
  have HLEN := Lib.hid h.len
  clear h
  generalize standsP toks at_ ks = R at *
  have HC := Lib.hid (fun (k : Int) (m : Nat) => slContains_any b kc ks k hkn (w.drewN m) (hk.drewN m))
  clear hk
  generalize ks.length = kn at *
  by_cases hlt : at_ < n
  · obtain ⟨t, ht⟩ : ∃ t, toks[at_]? = some t := ⟨_, List.getElem?_eq_getElem (by rw [HLEN.out]; exact hlt)⟩
    obtain ⟨g, off, rfl, hg, a0, a1, a2, a3, a4, a5, a6⟩ := HROW.out.at_ ht
    have HR2 := HR.out
    rw [ht] at HR2
    have HR3 : Hid (R = ks.contains t.kind) := HR2
    clear HR HR2 ht a1 a2 a3 a4 a5 a6
    generalize t.kind = k at *
    have hd : decide ((at_ : Int) < n) = true := by rw [decide_eq_true_eq]; omega
    have hlt' : (at_ : Int) < n := by omega
    have h0' : (0 : Int) ≤ at_ := by omega
    have HC2 := Lib.hid (HC.out k)
    clear HC
    generalize ks.contains k = cb at *
    go_enter Tryz.func68, Tryz.ntmps68
    go_wp2
    go_quiet ((go_at_call 111; exact quiet_left (HC2.out _)))
    go_wp2
    go_ret
    exact ⟨ret_bool HR3.out.symm, _, rfl⟩
  · have HR2 := HR.out
    rw [List.getElem?_eq_none (by rw [HLEN.out]; omega)] at HR2
    have HR3 : Hid (R = false) := HR2
    clear HR HR2 HC
    have hd : decide ((at_ : Int) < n) = false := by rw [decide_eq_false_iff_not]; omega
    have hd2 : decide (at_ < n) = false := by rw [decide_eq_false_iff_not]; omega
    go_enter Tryz.func68, Tryz.ntmps68
    go_wp2
    go_quiet (fail)
    go_wp2
    go_ret
    exact ⟨ret_bool HR3.out.symm, _, rfl⟩
end Go.Proofs.YtodenbimeojgdaaGreatDoor

/-
  The contract of (*printer).kids, over a contract of (*printer).tree at the kids. Conditions: the kids lie in memory; Go's own limit on lengths.
-/
namespace Go.Proofs.YtodenbimeojgdaaGreatDoor
open Go.RowKit

/-- a contract of (*printer).tree at one tree, whose text is this -/
def TreeAt (B b : Nat) (x : Tr) (s : List UInt8) : Prop := ∀ (sl : Value) (l : List UInt8) (buf : Option Nat) (W : World), Pr B b l buf W → KidsAt W (· < B) x.kids sl → PowAt W → l.length + s.length ≤ 140737488355328 →
    Calls Tryz.prog 37 #[.pointer (some ⟨b, 0, none⟩), treeV x sl] W fun e w' => e = .returned (.tuple #[]) ∧ Wr B b buf W (l ++ s) w'
theorem KindsAt.wr {B b : Nat} {buf : Option Nat} {w w' : World} {l : List UInt8} {g : Nat} {ks : List Int} (h : KindsAt w g ks) (hw : Wr B b buf w l w') (hg : g < w.heap.size) (h1 : g ≠ b) (h2 : some g ≠ buf) : KindsAt w' g ks := fun i k hk => (World.cell?_of_block (w := w) (a := ⟨g, i, none⟩) (hw.kept g hg h1 h2)).trans (h i k hk)
/-- blocks that were there stay other ones than the printer's -/
theorem Wr.apart {B b : Nat} {buf : Option Nat} {w w' : World} {l : List UInt8} (h : Wr B b buf w l w') : ∃ buf1, Pr B b l buf1 w' ∧ Below B w w' ∧ (∀ l2 w2, Wr B b buf1 w' l2 w2 → Wr B b buf w l2 w2) ∧ ∀ g, g < w.heap.size → some g ≠ buf → some g ≠ buf1 := by
  obtain ⟨⟨buf1, hp1, hc1⟩, hbel, hk⟩ := h
  refine ⟨buf1, hp1, hbel, fun _ _ hx => Wr.trans hc1 hbel hk hx, fun g hg hn => ?_⟩
  rcases hc1 with rfl | hc1
  · exact hn
  · intro he
    have := hc1 g he.symm
    omega

set_option maxHeartbeats 2000000 in
set_option maxRecDepth 100000 in
theorem prKids_any (f : Tr → List UInt8) (B b : Nat) (l between : List UInt8) (br : List Int) (ks : List Tr) (sl : Value) (gb c : Nat) (buf : Option Nat) (w : World) (h : Pr B b l buf w) (hk : KidsAt w (· < B) ks sl) (hbr : KindsAt w gb br) (hgl : gb < w.heap.size) (hgb : gb ≠ b) (hgf : some gb ≠ buf) (hbn : br.length ≤ 1000)
    (hp : PowAt w) (hB5 : 4 < B) (hlen : l.length + (kidsP f between br ks).length ≤ 140737488355328) (hT : ∀ x ∈ ks, TreeAt B b x (f x)) :
    Calls Tryz.prog 79 #[.pointer (some ⟨b, 0, none⟩), sl, .string (bs between), .slice (some ⟨gb, 0, none⟩) br.length c] w fun e w' => e = .returned (.tuple #[]) ∧ Wr B b buf w (l ++ kidsP f between br ks) w' := by
  obtain ⟨p, cap, rfl, hm⟩ := hk.form
  unfold maxLen at hm
  have HP := Lib.hid h
  have HK := Lib.hid hk
  have HBR := Lib.hid hbr
  have HPW := Lib.hid hp
  have HL := Lib.hid hlen
  have HT := Lib.hid hT
  clear h hk hbr hp hlen hT
  generalize hn : ks.length = n at *
  have HN := Lib.hid hn
  clear hn
  go_enter Tryz.func79, Tryz.ntmps79
  go_wp2
  go_loopw [8, 9, 12] (fun _ _ i wr => ∃ k : Nat, k ≤ n ∧ i = .int .i64 k ∧ Wr B b buf w (l ++ kidsP f between br (ks.take k)) wr) (fun _ _ i _ => n - (intOf i).toNat)
  case atStart => exact ⟨0, Nat.zero_le _, rfl, by simpa [kidsP, kidsF] using Wr.refl HP.out⟩
  case round =>
    obtain ⟨k, hk, rfl, hwr⟩ := hrel
    by_cases hlt : k < n
    · obtain ⟨x, hx⟩ : ∃ x, ks[k]? = some x := ⟨_, List.getElem?_eq_getElem (by rw [HN.out]; exact hlt)⟩
      have htk : ks.take (k + 1) = ks.take k ++ [x] := by rw [List.take_add_one, hx]; rfl
      have hlk : (ks.take k).length = k := by rw [List.length_take, HN.out]; omega
      have hsn : kidsP f between br (ks.take (k + 1)) = kidsP f between br (ks.take k) ++ (if k = 0 then [] else between) ++ kidP f br x := by
        unfold kidsP
        rw [htk, kidsF_snoc, hlk]
      have hpart : l.length + (kidsP f between br (ks.take k)).length + ((if k = 0 then [] else between : List UInt8).length + (kidP f br x).length) ≤ 140737488355328 := by
        have h1 := HL.out
        have h2 : (kidsP f between br (ks.take (k + 1))).length ≤ (kidsP f between br ks).length := kidsF_take _ _ _ _ _ _
        rw [hsn] at h2
        simp only [List.length_append] at h2
        omega
      have HSN := Lib.hid hsn
      have HPA := Lib.hid hpart
      clear hsn hpart htk hlk
      have HTX := Lib.hid (HT.out x (List.mem_of_getElem? hx))
      obtain ⟨buf1, hp1, hbel, hE, hap⟩ := hwr.apart
      have hg1 : some gb ≠ buf1 := hap gb hgl hgf
      have HK1 := Lib.hid (HBR.out.wr hwr hgl hgb hgf)
      have hgl1 : gb < wr.heap.size := Nat.lt_of_lt_of_le hgl hbel.size
      have hbl := hp1.lt
      have HPW1 := Lib.hid (HPW.out.below hbel hB5)
      have HE := Lib.hid hE
      have HP1 := Lib.hid hp1
      have HBF := Lib.hid (fun g (hg : buf1 = some g) => (hp1.buf_lt hg).2)
      obtain ⟨g, off, ksl, rfl, hg, _, a0, a1, a2, a3, a4, a5, a6, hkk, _⟩ := (HK.out.under hbel).at_ hx
      have HKK := Lib.hid hkk
      obtain ⟨kp, kc, rfl, _⟩ := hkk.form
      have hlt' : (k : Int) < n := by omega
      have h0' : (0 : Int) ≤ k := by omega
      clear hx hwr hbel hE hp1 hkk hap HK HBR HPW
      -- the kid's own block
      have HKB : Hid (Blk (wr.alloc (.cells #[.int .u8 x.kind, .string (bs x.text), .int .u8 x.lo, .int .u8 x.hi, .int .i64 x.mn, .int .i64 x.mx, .slice kp x.kids.length kc] 25)) wr.heap.size 25 #[.int .u8 x.kind, .string (bs x.text), .int .u8 x.lo, .int .u8 x.hi, .int .i64 x.mn, .int .i64 x.mx, .slice kp x.kids.length kc]) := Blk.new _ _ _
      have HB1 : Hid (Below wr.heap.size wr (wr.alloc (.cells #[.int .u8 x.kind, .string (bs x.text), .int .u8 x.lo, .int .u8 x.hi, .int .i64 x.mn, .int .i64 x.mx, .slice kp x.kids.length kc] 25))) := (Below.refl _ _).alloc (Nat.le_refl _) _
      have HTV : Hid (treeV x (.slice kp x.kids.length kc) = .agg #[.int .u8 x.kind, .string (bs x.text), .int .u8 x.lo, .int .u8 x.hi, .int .i64 x.mn, .int .i64 x.mx, .slice kp x.kids.length kc]) := show _ = _ from rfl
      have HTY : Hid (∀ (l : List UInt8) (buf : Option Nat) (W : World), Pr B b l buf W → KidsAt W (· < B) x.kids (.slice kp x.kids.length kc) → PowAt W → l.length + (f x).length ≤ 140737488355328 →
          Calls Tryz.prog 37 #[.pointer (some ⟨b, 0, none⟩), .agg #[.int .u8 x.kind, .string (bs x.text), .int .u8 x.lo, .int .u8 x.hi, .int .i64 x.mn, .int .i64 x.mx, .slice kp x.kids.length kc]] W fun e w' => e = .returned (.tuple #[]) ∧ Wr B b buf W (l ++ f x) w') := fun l buf W h1 h2 h3 h4 => by
        have := HTX.out _ l buf W h1 h2 h3 h4
        rw [HTV.out] at this
        exact this
      clear HTX HTV
      have HKP : Hid (kidP f br x = if br.contains x.kind then [40] ++ f x ++ [41] else f x) := show _ = _ from rfl
      have HC := Lib.hid (fun (W : World) (hW : KindsAt W gb br) => slContains_any gb c br x.kind hbn W hW)
      by_cases hk0 : k = 0
      · cases hc : br.contains x.kind with
        | false =>
          have HPAR : Hid ((l ++ kidsP f between br (ks.take k)).length + ((f x).length) ≤ 140737488355328) := by
            show _ ≤ _
            have h1 := HPA.out
            rw [HKP.out, hc] at h1
            simp [hk0] at h1 ⊢
            omega
          have HSN2 : Hid (kidsP f between br (ks.take (k + 1)) = kidsP f between br (ks.take k) ++ f x) := by show _ = _; rw [HSN.out, HKP.out, hc]; simp [hk0]
          rw [hc] at HC
          clear HSN HPA HKP hc
          have hk0' : ¬ (0 : Int) < k := by omega
          have hd0 : decide ((0 : Int) < k) = false := by simp; omega
          clear hk0
          have HP2 := Lib.hid (HP1.out.later HB1.out)
          have HK2 : Hid (KindsAt (wr.alloc (.cells #[.int .u8 x.kind, .string (bs x.text), .int .u8 x.lo, .int .u8 x.hi, .int .i64 x.mn, .int .i64 x.mx, .slice kp x.kids.length kc] 25)) gb br) := fun i z hz => (HB1.out.cell (p := ⟨gb, i, none⟩) hgl1).trans (HK1.out i z hz)
          have HE2 : Hid (∀ l2 w2, Wr B b buf1 (wr.alloc (.cells #[.int .u8 x.kind, .string (bs x.text), .int .u8 x.lo, .int .u8 x.hi, .int .i64 x.mn, .int .i64 x.mx, .slice kp x.kids.length kc] 25)) l2 w2 → Wr B b buf w l2 w2) := fun _ _ hx => HE.out _ _ (hx.from_later HP1.out.room HB1.out)
          have HKK2 : Hid (KidsAt (wr.alloc (.cells #[.int .u8 x.kind, .string (bs x.text), .int .u8 x.lo, .int .u8 x.hi, .int .i64 x.mn, .int .i64 x.mx, .slice kp x.kids.length kc] 25)) (· < B) x.kids (.slice kp x.kids.length kc)) := HKK.out.under (HB1.out.mono HP1.out.room)
          have HPW2 : Hid (PowAt (wr.alloc (.cells #[.int .u8 x.kind, .string (bs x.text), .int .u8 x.lo, .int .u8 x.hi, .int .i64 x.mn, .int .i64 x.mx, .slice kp x.kids.length kc] 25))) := HPW1.out.below HB1.out (Nat.lt_of_lt_of_le hB5 HP1.out.room)
          have HKB2 := Lib.hid HKB.out
          have hne2 : wr.heap.size ≠ b := by omega
          have hnf2 : some wr.heap.size ≠ buf1 := fun e => by have := HBF.out _ e.symm; omega
          clear HP1 HK1 HE HKK HPW1 HKB
          go_wp2_with (go_at_call 111; refine (HC.out _ HK2.out).mono ?_; rintro e w3 ⟨rfl, rfl⟩)
          refine (HTY.out (l ++ kidsP f between br (ks.take k)) buf1 _ HP2.out HKK2.out HPW2.out (by have := HPAR.out; simp at this ⊢; omega)).mono ?_
          rintro e w4 ⟨rfl, hw4⟩
          have hEND := HE2.out _ _ hw4
          clear hw4
          have heq : (l ++ kidsP f between br (ks.take k)) ++ f x = l ++ kidsP f between br (ks.take (k + 1)) := by rw [HSN2.out]; simp
          rw [heq] at hEND
          clear heq HSN2 HPAR HC
          go_wp2
          go_roundw
          case rel => exact ⟨k + 1, by omega, by go_num, hEND⟩
          case measure => simp [intOf]; omega
        | true =>
          have HPAR : Hid ((l ++ kidsP f between br (ks.take k)).length + (([40] ++ f x ++ [41]).length) ≤ 140737488355328) := by
            show _ ≤ _
            have h1 := HPA.out
            rw [HKP.out, hc] at h1
            simp [hk0] at h1 ⊢
            omega
          have HSN2 : Hid (kidsP f between br (ks.take (k + 1)) = kidsP f between br (ks.take k) ++ ([40] ++ f x ++ [41])) := by show _ = _; rw [HSN.out, HKP.out, hc]; simp [hk0]
          rw [hc] at HC
          clear HSN HPA HKP hc
          have hk0' : ¬ (0 : Int) < k := by omega
          have hd0 : decide ((0 : Int) < k) = false := by simp; omega
          clear hk0
          have HP2 := Lib.hid (HP1.out.later HB1.out)
          have HK2 : Hid (KindsAt (wr.alloc (.cells #[.int .u8 x.kind, .string (bs x.text), .int .u8 x.lo, .int .u8 x.hi, .int .i64 x.mn, .int .i64 x.mx, .slice kp x.kids.length kc] 25)) gb br) := fun i z hz => (HB1.out.cell (p := ⟨gb, i, none⟩) hgl1).trans (HK1.out i z hz)
          have HE2 : Hid (∀ l2 w2, Wr B b buf1 (wr.alloc (.cells #[.int .u8 x.kind, .string (bs x.text), .int .u8 x.lo, .int .u8 x.hi, .int .i64 x.mn, .int .i64 x.mx, .slice kp x.kids.length kc] 25)) l2 w2 → Wr B b buf w l2 w2) := fun _ _ hx => HE.out _ _ (hx.from_later HP1.out.room HB1.out)
          have HKK2 : Hid (KidsAt (wr.alloc (.cells #[.int .u8 x.kind, .string (bs x.text), .int .u8 x.lo, .int .u8 x.hi, .int .i64 x.mn, .int .i64 x.mx, .slice kp x.kids.length kc] 25)) (· < B) x.kids (.slice kp x.kids.length kc)) := HKK.out.under (HB1.out.mono HP1.out.room)
          have HPW2 : Hid (PowAt (wr.alloc (.cells #[.int .u8 x.kind, .string (bs x.text), .int .u8 x.lo, .int .u8 x.hi, .int .i64 x.mn, .int .i64 x.mx, .slice kp x.kids.length kc] 25))) := HPW1.out.below HB1.out (Nat.lt_of_lt_of_le hB5 HP1.out.room)
          have HKB2 := Lib.hid HKB.out
          have hne2 : wr.heap.size ≠ b := by omega
          have hnf2 : some wr.heap.size ≠ buf1 := fun e => by have := HBF.out _ e.symm; omega
          clear HP1 HK1 HE HKK HPW1 HKB
          go_wp2_with (go_at_call 111; refine (HC.out _ HK2.out).mono ?_; rintro e w3 ⟨rfl, rfl⟩)
          refine (put_at B b (l ++ kidsP f between br (ks.take k)) buf1 _ HP2.out [[40]] (by have := HPAR.out; simp at this ⊢; omega) (by simp) _ 1 1 _ (by simp) rfl ((Below.refl _ _).alloc (Nat.le_refl _) _) (Blk.new_at _ _ _ _ (by simp))).mono ?_
          rintro e w4 ⟨rfl, hw4⟩
          obtain ⟨buf4, hp4, hbel4, hE4, hap4⟩ := hw4.apart
          have HP4 := Lib.hid hp4
          have HE4 : Hid (∀ l2 w3, Wr B b buf4 w4 l2 w3 → Wr B b buf w l2 w3) := fun _ _ hx => HE2.out _ _ (hE4 _ _ hx)
          have HKK4 : Hid (KidsAt w4 (· < B) x.kids (.slice kp x.kids.length kc)) := HKK2.out.under hbel4
          have HPW4 : Hid (PowAt w4) := HPW2.out.below hbel4 hB5
          have hck4 := (hw4.blk HKB2.out hne2 hnf2).cell
          clear hw4 hp4 hbel4 hE4 hap4 HP2 HKK2 HPW2 HK2 HE2 HKB2
          clear a0 a1 a2 a3 a4 a5 a6
          go_wp2_with (go_at_call 37; refine (HTY.out ((l ++ kidsP f between br (ks.take k)) ++ [[40]].flatten) buf4 _ HP4.out HKK4.out HPW4.out (by have := HPAR.out; simp at this ⊢; omega)).mono ?_)
          rintro e w5 ⟨rfl, hw5⟩
          obtain ⟨buf5, hp5, hbel5, hE5, hap5⟩ := hw5.apart
          have HP5 := Lib.hid hp5
          have HE5 : Hid (∀ l2 w3, Wr B b buf5 w5 l2 w3 → Wr B b buf w l2 w3) := fun _ _ hx => HE4.out _ _ (hE5 _ _ hx)
          clear hw5 hp5 hbel5 hE5 hap5 HP4 HKK4 HPW4 HE4 hck4
          go_wp2_with (go_at_call 36; refine (put_new B b ((l ++ kidsP f between br (ks.take k)) ++ [[40]].flatten ++ f x) buf5 _ HP5.out [[41]] (by have := HPAR.out; simp at this ⊢; omega) (by simp) 1 _ ((Below.refl _ _).alloc (Nat.le_refl _) _) (Blk.new _ _ _)).mono ?_)
          rintro e w6 ⟨rfl, hw6⟩
          have hEND := HE5.out _ _ hw6
          clear hw6
          have heq : (l ++ kidsP f between br (ks.take k)) ++ [[40]].flatten ++ f x ++ [[41]].flatten = l ++ kidsP f between br (ks.take (k + 1)) := by rw [HSN2.out]; simp
          rw [heq] at hEND
          clear heq HSN2 HPAR HC
          go_wp2
          go_roundw
          case rel => exact ⟨k + 1, by omega, by go_num, hEND⟩
          case measure => simp [intOf]; omega
      · cases hc : br.contains x.kind with
        | false =>
          have HPAR : Hid ((l ++ kidsP f between br (ks.take k)).length + (between.length + (f x).length) ≤ 140737488355328) := by
            show _ ≤ _
            have h1 := HPA.out
            rw [HKP.out, hc] at h1
            simp [hk0] at h1 ⊢
            omega
          have HSN2 : Hid (kidsP f between br (ks.take (k + 1)) = kidsP f between br (ks.take k) ++ between ++ f x) := by show _ = _; rw [HSN.out, HKP.out, hc]; simp [hk0]
          rw [hc] at HC
          clear HSN HPA HKP hc
          have hk0' : (0 : Int) < k := by omega
          have hd0 : decide ((0 : Int) < k) = true := by simp; omega
          go_wp2_with (go_at_call 36; refine (put_at B b _ buf1 (wr.alloc (.cells #[.int .u8 x.kind, .string (bs x.text), .int .u8 x.lo, .int .u8 x.hi, .int .i64 x.mn, .int .i64 x.mx, .slice kp x.kids.length kc] 25)) (HP1.out.later HB1.out) [between] (by have := HPAR.out; simp at this ⊢; omega) (by simp) _ 1 1 _ (by simp) rfl ((Below.refl _ _).alloc (Nat.le_refl _) _) (Blk.new_at _ _ _ _ (by simp))).mono ?_)
          rintro e w2 ⟨rfl, hw2⟩
          obtain ⟨buf2, hp2, hbel2, hE2, hap2⟩ := hw2.apart
          have hne2 : wr.heap.size ≠ b := by omega
          have hnf1 : some wr.heap.size ≠ buf1 := fun e => by have := HBF.out _ e.symm; omega
          have hnf2 : some wr.heap.size ≠ buf2 := hap2 _ HKB.out.lt hnf1
          have HP2 := Lib.hid hp2
          have HK2 : Hid (KindsAt w2 gb br) := KindsAt.wr (fun i z hz => (HB1.out.cell (p := ⟨gb, i, none⟩) hgl1).trans (HK1.out i z hz)) hw2 (Nat.lt_of_lt_of_le hgl1 HB1.out.size) hgb hg1
          have HE2 : Hid (∀ l2 w3, Wr B b buf2 w2 l2 w3 → Wr B b buf w l2 w3) := fun _ _ hx => HE.out _ _ ((hE2 _ _ hx).from_later HP1.out.room HB1.out)
          have HKK2 : Hid (KidsAt w2 (· < B) x.kids (.slice kp x.kids.length kc)) := (HKK.out.under (HB1.out.mono HP1.out.room)).under hbel2
          have HPW2 : Hid (PowAt w2) := (HPW1.out.below HB1.out (Nat.lt_of_lt_of_le hB5 HP1.out.room)).below hbel2 hB5
          have HKB2 := Lib.hid (hw2.blk HKB.out hne2 hnf1)
          have hck := HKB2.out.cell
          clear HP1 HK1 HE HKK HPW1 HKB hw2 hp2 hbel2 hE2 hap2 hnf1 HB1 hd0
          clear a0 a1 a2 a3 a4 a5 a6
          go_wp2_with (go_at_call 111; refine (HC.out _ HK2.out).mono ?_; rintro e w3 ⟨rfl, rfl⟩)
          refine (HTY.out ((l ++ kidsP f between br (ks.take k)) ++ [between].flatten) buf2 _ HP2.out HKK2.out HPW2.out (by have := HPAR.out; simp at this ⊢; omega)).mono ?_
          rintro e w4 ⟨rfl, hw4⟩
          have hEND := HE2.out _ _ hw4
          clear hw4
          have heq : ((l ++ kidsP f between br (ks.take k)) ++ [between].flatten) ++ f x = l ++ kidsP f between br (ks.take (k + 1)) := by rw [HSN2.out]; simp
          rw [heq] at hEND
          clear heq HSN2 HPAR HC
          go_wp2
          go_roundw
          case rel => exact ⟨k + 1, by omega, by go_num, hEND⟩
          case measure => simp [intOf]; omega
        | true =>
          have HPAR : Hid ((l ++ kidsP f between br (ks.take k)).length + (between.length + ([40] ++ f x ++ [41]).length) ≤ 140737488355328) := by
            show _ ≤ _
            have h1 := HPA.out
            rw [HKP.out, hc] at h1
            simp [hk0] at h1 ⊢
            omega
          have HSN2 : Hid (kidsP f between br (ks.take (k + 1)) = kidsP f between br (ks.take k) ++ between ++ ([40] ++ f x ++ [41])) := by show _ = _; rw [HSN.out, HKP.out, hc]; simp [hk0]
          rw [hc] at HC
          clear HSN HPA HKP hc
          have hk0' : (0 : Int) < k := by omega
          have hd0 : decide ((0 : Int) < k) = true := by simp; omega
          go_wp2_with (go_at_call 36; refine (put_at B b _ buf1 (wr.alloc (.cells #[.int .u8 x.kind, .string (bs x.text), .int .u8 x.lo, .int .u8 x.hi, .int .i64 x.mn, .int .i64 x.mx, .slice kp x.kids.length kc] 25)) (HP1.out.later HB1.out) [between] (by have := HPAR.out; simp at this ⊢; omega) (by simp) _ 1 1 _ (by simp) rfl ((Below.refl _ _).alloc (Nat.le_refl _) _) (Blk.new_at _ _ _ _ (by simp))).mono ?_)
          rintro e w2 ⟨rfl, hw2⟩
          obtain ⟨buf2, hp2, hbel2, hE2, hap2⟩ := hw2.apart
          have hne2 : wr.heap.size ≠ b := by omega
          have hnf1 : some wr.heap.size ≠ buf1 := fun e => by have := HBF.out _ e.symm; omega
          have hnf2 : some wr.heap.size ≠ buf2 := hap2 _ HKB.out.lt hnf1
          have HP2 := Lib.hid hp2
          have HK2 : Hid (KindsAt w2 gb br) := KindsAt.wr (fun i z hz => (HB1.out.cell (p := ⟨gb, i, none⟩) hgl1).trans (HK1.out i z hz)) hw2 (Nat.lt_of_lt_of_le hgl1 HB1.out.size) hgb hg1
          have HE2 : Hid (∀ l2 w3, Wr B b buf2 w2 l2 w3 → Wr B b buf w l2 w3) := fun _ _ hx => HE.out _ _ ((hE2 _ _ hx).from_later HP1.out.room HB1.out)
          have HKK2 : Hid (KidsAt w2 (· < B) x.kids (.slice kp x.kids.length kc)) := (HKK.out.under (HB1.out.mono HP1.out.room)).under hbel2
          have HPW2 : Hid (PowAt w2) := (HPW1.out.below HB1.out (Nat.lt_of_lt_of_le hB5 HP1.out.room)).below hbel2 hB5
          have HKB2 := Lib.hid (hw2.blk HKB.out hne2 hnf1)
          have hck := HKB2.out.cell
          clear HP1 HK1 HE HKK HPW1 HKB hw2 hp2 hbel2 hE2 hap2 hnf1 HB1 hd0
          clear a0 a1 a2 a3 a4 a5 a6
          go_wp2_with (go_at_call 111; refine (HC.out _ HK2.out).mono ?_; rintro e w3 ⟨rfl, rfl⟩)
          refine (put_at B b ((l ++ kidsP f between br (ks.take k)) ++ [between].flatten) buf2 _ HP2.out [[40]] (by have := HPAR.out; simp at this ⊢; omega) (by simp) _ 1 1 _ (by simp) rfl ((Below.refl _ _).alloc (Nat.le_refl _) _) (Blk.new_at _ _ _ _ (by simp))).mono ?_
          rintro e w4 ⟨rfl, hw4⟩
          obtain ⟨buf4, hp4, hbel4, hE4, hap4⟩ := hw4.apart
          have HP4 := Lib.hid hp4
          have HE4 : Hid (∀ l2 w3, Wr B b buf4 w4 l2 w3 → Wr B b buf w l2 w3) := fun _ _ hx => HE2.out _ _ (hE4 _ _ hx)
          have HKK4 : Hid (KidsAt w4 (· < B) x.kids (.slice kp x.kids.length kc)) := HKK2.out.under hbel4
          have HPW4 : Hid (PowAt w4) := HPW2.out.below hbel4 hB5
          have hck4 := (hw4.blk HKB2.out hne2 hnf2).cell
          clear hw4 hp4 hbel4 hE4 hap4 HP2 HKK2 HPW2 HK2 HE2 HKB2 hck
          go_wp2_with (go_at_call 37; refine (HTY.out (((l ++ kidsP f between br (ks.take k)) ++ [between].flatten) ++ [[40]].flatten) buf4 _ HP4.out HKK4.out HPW4.out (by have := HPAR.out; simp at this ⊢; omega)).mono ?_)
          rintro e w5 ⟨rfl, hw5⟩
          obtain ⟨buf5, hp5, hbel5, hE5, hap5⟩ := hw5.apart
          have HP5 := Lib.hid hp5
          have HE5 : Hid (∀ l2 w3, Wr B b buf5 w5 l2 w3 → Wr B b buf w l2 w3) := fun _ _ hx => HE4.out _ _ (hE5 _ _ hx)
          clear hw5 hp5 hbel5 hE5 hap5 HP4 HKK4 HPW4 HE4 hck4
          go_wp2_with (go_at_call 36; refine (put_new B b (((l ++ kidsP f between br (ks.take k)) ++ [between].flatten) ++ [[40]].flatten ++ f x) buf5 _ HP5.out [[41]] (by have := HPAR.out; simp at this ⊢; omega) (by simp) 1 _ ((Below.refl _ _).alloc (Nat.le_refl _) _) (Blk.new _ _ _)).mono ?_)
          rintro e w6 ⟨rfl, hw6⟩
          have hEND := HE5.out _ _ hw6
          clear hw6
          have heq : ((l ++ kidsP f between br (ks.take k)) ++ [between].flatten) ++ [[40]].flatten ++ f x ++ [[41]].flatten = l ++ kidsP f between br (ks.take (k + 1)) := by rw [HSN2.out]; simp
          rw [heq] at hEND
          clear heq HSN2 HPAR HC
          go_wp2
          go_roundw
          case rel => exact ⟨k + 1, by omega, by go_num, hEND⟩
          case measure => simp [intOf]; omega
    · have : k = n := by omega
      subst this
      rw [List.take_of_length_le (by rw [HN.out]; omega)] at hwr
      go_wp2
      go_end0
      exact ⟨rfl, hwr⟩
end Go.Proofs.YtodenbimeojgdaaGreatDoor

/-
  The contract of (*printer).tree, by a tree's depth. Conditions: the tree is right and lies in memory; its bytes are bytes; Go's own limit on lengths.
-/
namespace Go.Proofs.YtodenbimeojgdaaGreatDoor
open Go.RowKit

theorem kind_of_right {d : Nat} {t : Tr} (h : rightD (d + 1) t = true) : aloneB t = true ∧ ∀ k ∈ t.kids, rightD d k = true := by
  have : rightD (d + 1) t = (aloneB t && t.kids.all (rightD d)) := rfl
  rw [this, Bool.and_eq_true, List.all_eq_true] at h
  exact h
theorem KindsAt.new (w : World) (t : TypeId) (ks : List Int) : KindsAt (w.alloc (.cells (ks.map fun z => Value.int .u8 z).toArray t)) w.heap.size ks := fun i k hk => by
  rw [cell_of_row _ _ i _ t (0, 0) (heap_alloc_new w _)]
  simp [hk]
theorem KindsAt.new_at (w : World) (t : TypeId) (ks : List Int) (g : Nat) (hg : g = w.heap.size) : KindsAt (w.alloc (.cells (ks.map fun z => Value.int .u8 z).toArray t)) g ks := by subst hg; exact KindsAt.new _ _ _
/-- kids, of a new row of kinds -/
theorem kids_at (f : Tr → List UInt8) (B b : Nat) (l between : List UInt8) (br : List Int) (ks : List Tr) (sl : Value) (g m c : Nat) (buf : Option Nat) (w W : World) (h : Pr B b l buf w) (hk : KidsAt w (· < B) ks sl) (hbn : br.length ≤ 1000) (hp : PowAt w) (hB5 : 4 < B) (hlen : l.length + (kidsP f between br ks).length ≤ 140737488355328) (hT : ∀ x ∈ ks, TreeAt B b x (f x))
    (hg : g = w.heap.size) (hm : m = br.length) (hW : Below w.heap.size w W) (hbr : KindsAt W g br) (hgl : g < W.heap.size) :
    Calls Tryz.prog 79 #[.pointer (some ⟨b, 0, none⟩), sl, .string (bs between), .slice (some ⟨g, 0, none⟩) m c] W fun e w' => e = .returned (.tuple #[]) ∧ Wr B b buf w (l ++ kidsP f between br ks) w' := by
  subst hg hm
  have hlt := h.lt
  refine (prKids_any f B b l between br ks sl w.heap.size c buf W (h.later hW) (hk.under (hW.mono h.room)) hbr hgl (by omega) ?_ hbn (hp.below hW (Nat.lt_of_lt_of_le hB5 h.room)) hB5 hlen hT).mono ?_
  · intro he
    have := (h.buf_lt he.symm).2
    omega
  · rintro e w' ⟨he, hw⟩
    exact ⟨he, hw.from_later h.room hW⟩
/-- values, of a new row of bytes -/
theorem values_at (B b g m c : Nat) (l between vs : List UInt8) (buf : Option Nat) (w W : World) (h : Pr B b l buf w) (hlen : l.length + (hexesP [37, 120] between vs).length ≤ 140737488355328) (hn : vs.length ≤ maxLen) (hg : g = w.heap.size) (hm : m = vs.length) (hW : Below w.heap.size w W) (hgl : g < W.heap.size) (hrow : ∀ j x, vs[j]? = some x → W.cell? ⟨g, j, none⟩ = some (.int .u8 x.toNat)) :
    Calls Tryz.prog 77 #[.pointer (some ⟨b, 0, none⟩), .string (bs between), .slice (some ⟨g, 0, none⟩) m c] W fun e w' => e = .returned (.tuple #[]) ∧ Wr B b buf w (l ++ hexesP [37, 120] between vs) w' := by
  subst hg hm
  have hlt := h.lt
  refine (values_any B b w.heap.size c l between vs buf W (h.later hW) hlen hn hgl hrow (by omega) ?_).mono ?_
  · intro he
    have := (h.buf_lt he.symm).2
    omega
  · rintro e w' ⟨he, hw⟩
    exact ⟨he, hw.from_later h.room hW⟩

set_option maxHeartbeats 2000000 in
set_option maxRecDepth 100000 in
theorem prTree_name (d : Nat) (B b : Nat) (t : Tr) (hkd : t.kind = 1) (hr : rightD (d + 1) t = true) (hy : byteD (d + 1) t) (hB5 : 4 < B) (htx : t.text.length ≤ maxLen) (hT : ∀ x ∈ t.kids, TreeAt B b x (printD d x)) : TreeAt B b t (printD (d + 1) t) := by
  intro sl l buf w h hk hp hlen
  obtain ⟨p, cap, rfl, hm⟩ := hk.form
  have HPR : Hid (printD (d + 1) t = t.text) := by
    show _ = _
    unfold printD
    simp [hkd]
  have HLE := hlen
  rw [HPR.out] at HLE
  have HL := Lib.hid HLE
  obtain ⟨hal, -⟩ := kind_of_right hr
  have hlt := h.lt
  have hB := h.room
  have HB1 : Hid (Below w.heap.size w (w.alloc (.cells #[.int .u8 t.kind, .string (bs t.text), .int .u8 t.lo, .int .u8 t.hi, .int .i64 t.mn, .int .i64 t.mx, .slice p t.kids.length cap] 25))) := (Below.refl _ _).alloc (Nat.le_refl _) _
  have HP0 := Lib.hid h
  have HP1 := Lib.hid (h.later HB1.out)
  have HK1 := Lib.hid (hk.under (HB1.out.mono hB))
  have HPW1 := Lib.hid (hp.below HB1.out (Nat.lt_of_lt_of_le hB5 hB))
  have HT := Lib.hid hT
  have HY := Lib.hid hy
  have HTX := Lib.hid htx
  have HTV : Hid (treeV t (.slice p t.kids.length cap) = .agg #[.int .u8 t.kind, .string (bs t.text), .int .u8 t.lo, .int .u8 t.hi, .int .i64 t.mn, .int .i64 t.mx, .slice p t.kids.length cap]) := show _ = _ from rfl
  rw [HTV.out, HPR.out]
  rw [hkd] at HB1 HP1 HK1 HPW1 ⊢
  clear hlen h hk hp hT hy hr hal HLE HTV HPR htx hm hkd
  go_enter Tryz.func37, Tryz.ntmps37
  go_wp2_with (go_at_call 36; refine (put_at B b l buf (w.alloc (.cells #[.int .u8 1, .string (bs t.text), .int .u8 t.lo, .int .u8 t.hi, .int .i64 t.mn, .int .i64 t.mx, .slice p t.kids.length cap] 25)) HP1.out [t.text] (by have := HL.out; simp at this ⊢; omega) (by simp) _ 1 1 _ (by simp) rfl ((Below.refl _ _).alloc (Nat.le_refl _) _) (Blk.new_at _ _ _ _ (by simp))).mono ?_)
  rintro e w2 ⟨rfl, hw2⟩
  have HEND := Lib.hid (hw2.from_later hB HB1.out)
  clear hw2
  go_wp2
  go_end0
  refine ⟨rfl, ?_⟩
  simpa using HEND.out

set_option maxHeartbeats 2000000 in
set_option maxRecDepth 100000 in
theorem prTree_chars (d : Nat) (B b : Nat) (t : Tr) (hkd : t.kind = 2) (hr : rightD (d + 1) t = true) (hy : byteD (d + 1) t) (hB5 : 4 < B) (htx : t.text.length ≤ maxLen) (hT : ∀ x ∈ t.kids, TreeAt B b x (printD d x)) : TreeAt B b t (printD (d + 1) t) := by
  intro sl l buf w h hk hp hlen
  obtain ⟨p, cap, rfl, hm⟩ := hk.form
  have HPR : Hid (printD (d + 1) t = [34] ++ t.text ++ [34]) := by
    show _ = _
    unfold printD
    simp [hkd]
  have HLE := hlen
  rw [HPR.out] at HLE
  have HL := Lib.hid HLE
  obtain ⟨hal, -⟩ := kind_of_right hr
  have hlt := h.lt
  have hB := h.room
  have HB1 : Hid (Below w.heap.size w (w.alloc (.cells #[.int .u8 t.kind, .string (bs t.text), .int .u8 t.lo, .int .u8 t.hi, .int .i64 t.mn, .int .i64 t.mx, .slice p t.kids.length cap] 25))) := (Below.refl _ _).alloc (Nat.le_refl _) _
  have HP0 := Lib.hid h
  have HP1 := Lib.hid (h.later HB1.out)
  have HK1 := Lib.hid (hk.under (HB1.out.mono hB))
  have HPW1 := Lib.hid (hp.below HB1.out (Nat.lt_of_lt_of_le hB5 hB))
  have HT := Lib.hid hT
  have HY := Lib.hid hy
  have HTX := Lib.hid htx
  have HTV : Hid (treeV t (.slice p t.kids.length cap) = .agg #[.int .u8 t.kind, .string (bs t.text), .int .u8 t.lo, .int .u8 t.hi, .int .i64 t.mn, .int .i64 t.mx, .slice p t.kids.length cap]) := show _ = _ from rfl
  rw [HTV.out, HPR.out]
  rw [hkd] at HB1 HP1 HK1 HPW1 ⊢
  clear hlen h hk hp hT hy hr hal HLE HTV HPR htx hm hkd
  go_enter Tryz.func37, Tryz.ntmps37
  go_wp2_with (go_at_call 36; refine (put_at B b l buf (w.alloc (.cells #[.int .u8 2, .string (bs t.text), .int .u8 t.lo, .int .u8 t.hi, .int .i64 t.mn, .int .i64 t.mx, .slice p t.kids.length cap] 25)) HP1.out [[34], t.text, [34]] (by have := HL.out; simp at this ⊢; omega) (by simp) _ 3 3 _ (by simp) rfl ((Below.refl _ _).alloc (Nat.le_refl _) _) (Blk.new_at _ _ _ _ (by simp))).mono ?_)
  rintro e w2 ⟨rfl, hw2⟩
  have HEND := Lib.hid (hw2.from_later hB HB1.out)
  clear hw2
  go_wp2
  go_end0
  refine ⟨rfl, ?_⟩
  simpa using HEND.out

set_option maxHeartbeats 2000000 in
set_option maxRecDepth 100000 in
theorem prTree_row (d : Nat) (B b : Nat) (t : Tr) (hkd : t.kind = 5) (hr : rightD (d + 1) t = true) (hy : byteD (d + 1) t) (hB5 : 4 < B) (htx : t.text.length ≤ maxLen) (hT : ∀ x ∈ t.kids, TreeAt B b x (printD d x)) : TreeAt B b t (printD (d + 1) t) := by
  intro sl l buf w h hk hp hlen
  obtain ⟨p, cap, rfl, hm⟩ := hk.form
  have HPR : Hid (printD (d + 1) t = kidsP (printD d) [32] [5, 6] t.kids) := by
    show _ = _
    unfold printD
    simp [hkd]
  have HLE := hlen
  rw [HPR.out] at HLE
  have HL := Lib.hid HLE
  obtain ⟨hal, -⟩ := kind_of_right hr
  have hlt := h.lt
  have hB := h.room
  have HB1 : Hid (Below w.heap.size w (w.alloc (.cells #[.int .u8 t.kind, .string (bs t.text), .int .u8 t.lo, .int .u8 t.hi, .int .i64 t.mn, .int .i64 t.mx, .slice p t.kids.length cap] 25))) := (Below.refl _ _).alloc (Nat.le_refl _) _
  have HP0 := Lib.hid h
  have HP1 := Lib.hid (h.later HB1.out)
  have HK1 := Lib.hid (hk.under (HB1.out.mono hB))
  have HPW1 := Lib.hid (hp.below HB1.out (Nat.lt_of_lt_of_le hB5 hB))
  have HT := Lib.hid hT
  have HY := Lib.hid hy
  have HTX := Lib.hid htx
  have HTV : Hid (treeV t (.slice p t.kids.length cap) = .agg #[.int .u8 t.kind, .string (bs t.text), .int .u8 t.lo, .int .u8 t.hi, .int .i64 t.mn, .int .i64 t.mx, .slice p t.kids.length cap]) := show _ = _ from rfl
  rw [HTV.out, HPR.out]
  rw [hkd] at HB1 HP1 HK1 HPW1 ⊢
  clear hlen h hk hp hT hy hr hal HLE HTV HPR htx hm hkd
  go_enter Tryz.func37, Tryz.ntmps37
  go_wp2_with (go_at_call 79; refine (kids_at (printD d) B b l [32] [5, 6] t.kids _ _ 2 2 buf (w.alloc (.cells #[.int .u8 5, .string (bs t.text), .int .u8 t.lo, .int .u8 t.hi, .int .i64 t.mn, .int .i64 t.mx, .slice p t.kids.length cap] 25)) _ HP1.out HK1.out (by simp) HPW1.out hB5 HL.out HT.out (by simp) rfl ((Below.refl _ _).alloc (Nat.le_refl _) _) (KindsAt.new_at _ _ _ _ (by simp)) (by simp)).mono ?_)
  rintro e w2 ⟨rfl, hw2⟩
  have HEND := Lib.hid (hw2.from_later hB HB1.out)
  clear hw2
  go_wp2
  go_end0
  refine ⟨rfl, ?_⟩
  exact HEND.out

set_option maxHeartbeats 2000000 in
set_option maxRecDepth 100000 in
theorem prTree_or (d : Nat) (B b : Nat) (t : Tr) (hkd : t.kind = 6) (hr : rightD (d + 1) t = true) (hy : byteD (d + 1) t) (hB5 : 4 < B) (htx : t.text.length ≤ maxLen) (hT : ∀ x ∈ t.kids, TreeAt B b x (printD d x)) : TreeAt B b t (printD (d + 1) t) := by
  intro sl l buf w h hk hp hlen
  obtain ⟨p, cap, rfl, hm⟩ := hk.form
  have HPR : Hid (printD (d + 1) t = kidsP (printD d) [32, 47, 32] [6] t.kids) := by
    show _ = _
    unfold printD
    simp [hkd]
  have HLE := hlen
  rw [HPR.out] at HLE
  have HL := Lib.hid HLE
  obtain ⟨hal, -⟩ := kind_of_right hr
  have hlt := h.lt
  have hB := h.room
  have HB1 : Hid (Below w.heap.size w (w.alloc (.cells #[.int .u8 t.kind, .string (bs t.text), .int .u8 t.lo, .int .u8 t.hi, .int .i64 t.mn, .int .i64 t.mx, .slice p t.kids.length cap] 25))) := (Below.refl _ _).alloc (Nat.le_refl _) _
  have HP0 := Lib.hid h
  have HP1 := Lib.hid (h.later HB1.out)
  have HK1 := Lib.hid (hk.under (HB1.out.mono hB))
  have HPW1 := Lib.hid (hp.below HB1.out (Nat.lt_of_lt_of_le hB5 hB))
  have HT := Lib.hid hT
  have HY := Lib.hid hy
  have HTX := Lib.hid htx
  have HTV : Hid (treeV t (.slice p t.kids.length cap) = .agg #[.int .u8 t.kind, .string (bs t.text), .int .u8 t.lo, .int .u8 t.hi, .int .i64 t.mn, .int .i64 t.mx, .slice p t.kids.length cap]) := show _ = _ from rfl
  rw [HTV.out, HPR.out]
  rw [hkd] at HB1 HP1 HK1 HPW1 ⊢
  clear hlen h hk hp hT hy hr hal HLE HTV HPR htx hm hkd
  go_enter Tryz.func37, Tryz.ntmps37
  go_wp2_with (go_at_call 79; refine (kids_at (printD d) B b l [32, 47, 32] [6] t.kids _ _ 1 1 buf (w.alloc (.cells #[.int .u8 6, .string (bs t.text), .int .u8 t.lo, .int .u8 t.hi, .int .i64 t.mn, .int .i64 t.mx, .slice p t.kids.length cap] 25)) _ HP1.out HK1.out (by simp) HPW1.out hB5 HL.out HT.out (by simp) rfl ((Below.refl _ _).alloc (Nat.le_refl _) _) (KindsAt.new_at _ _ _ _ (by simp)) (by simp)).mono ?_)
  rintro e w2 ⟨rfl, hw2⟩
  have HEND := Lib.hid (hw2.from_later hB HB1.out)
  clear hw2
  go_wp2
  go_end0
  refine ⟨rfl, ?_⟩
  exact HEND.out

set_option maxHeartbeats 2000000 in
set_option maxRecDepth 100000 in
theorem prTree_times (d : Nat) (B b : Nat) (t : Tr) (hkd : t.kind = 7) (hr : rightD (d + 1) t = true) (hy : byteD (d + 1) t) (hB5 : 4 < B) (htx : t.text.length ≤ maxLen) (hT : ∀ x ∈ t.kids, TreeAt B b x (printD d x)) : TreeAt B b t (printD (d + 1) t) := by
  intro sl l buf w h hk hp hlen
  obtain ⟨p, cap, rfl, hm⟩ := hk.form
  have HPR : Hid (printD (d + 1) t = timesTextP t.mn t.mx ++ kidsP (printD d) [] [7, 5, 6] t.kids) := by
    show _ = _
    unfold printD
    simp [hkd]
  have HLE := hlen
  rw [HPR.out] at HLE
  have HL := Lib.hid HLE
  obtain ⟨hal, -⟩ := kind_of_right hr
  have hlt := h.lt
  have hB := h.room
  have HB1 : Hid (Below w.heap.size w (w.alloc (.cells #[.int .u8 t.kind, .string (bs t.text), .int .u8 t.lo, .int .u8 t.hi, .int .i64 t.mn, .int .i64 t.mx, .slice p t.kids.length cap] 25))) := (Below.refl _ _).alloc (Nat.le_refl _) _
  have HP0 := Lib.hid h
  have HP1 := Lib.hid (h.later HB1.out)
  have HK1 := Lib.hid (hk.under (HB1.out.mono hB))
  have HPW1 := Lib.hid (hp.below HB1.out (Nat.lt_of_lt_of_le hB5 hB))
  have HT := Lib.hid hT
  have HY := Lib.hid hy
  have HTX := Lib.hid htx
  have HTV : Hid (treeV t (.slice p t.kids.length cap) = .agg #[.int .u8 t.kind, .string (bs t.text), .int .u8 t.lo, .int .u8 t.hi, .int .i64 t.mn, .int .i64 t.mx, .slice p t.kids.length cap]) := show _ = _ from rfl
  rw [HTV.out, HPR.out]
  have HTI : Hid (timesB t.mn t.mx = true) := by show _ = _; have := hal; unfold aloneB at this; simp [hkd] at this; simp [this]
  have hne : w.heap.size ≠ b := by omega
  have hnf : some w.heap.size ≠ buf := fun e => by have := (HP0.out.buf_lt e.symm).2; omega
  rw [hkd] at HB1 HP1 HK1 HPW1 ⊢
  clear hlen h hk hp hT hy hr hal HLE HTV HPR htx hm hkd
  go_enter Tryz.func37, Tryz.ntmps37
  go_wp2_with (go_at_call 78; refine (prTimes_any B b l t.mn t.mx buf (w.alloc (.cells #[.int .u8 7, .string (bs t.text), .int .u8 t.lo, .int .u8 t.hi, .int .i64 t.mn, .int .i64 t.mx, .slice p t.kids.length cap] 25)) HP1.out HTI.out HPW1.out hB5 (by have := HL.out; simp at this ⊢; omega)).mono ?_)
  rintro e w2 ⟨rfl, hw2⟩
  obtain ⟨buf2, hp2, hbel2, hE2, _⟩ := hw2.apart
  have hck := (hw2.blk (Blk.new w _ _) hne hnf).cell
  have HP2 := Lib.hid hp2
  have HK2 := Lib.hid (HK1.out.under hbel2)
  have HPW2 := Lib.hid (HPW1.out.below hbel2 hB5)
  have HE2 : Hid (∀ l2 w3, Wr B b buf2 w2 l2 w3 → Wr B b buf w l2 w3) := fun _ _ hx => (hE2 _ _ hx).from_later hB HB1.out
  clear hw2 hp2 hbel2 hE2
  go_wp2_with (go_at_call 79; refine (kids_at (printD d) B b _ [] [7, 5, 6] t.kids _ _ 3 3 buf2 w2 _ HP2.out HK2.out (by simp) HPW2.out hB5 (by have := HL.out; simp at this ⊢; omega) HT.out (by simp) rfl ((Below.refl _ _).alloc (Nat.le_refl _) _) (KindsAt.new_at _ _ _ _ (by simp)) (by simp)).mono ?_)
  rintro e w3 ⟨rfl, hw3⟩
  have HEND := Lib.hid (HE2.out _ _ hw3)
  clear hw3
  go_wp2
  go_end0
  refine ⟨rfl, ?_⟩
  simpa using HEND.out

set_option maxHeartbeats 2000000 in
set_option maxRecDepth 100000 in
theorem prTree_range (d : Nat) (B b : Nat) (t : Tr) (hkd : t.kind = 4) (hr : rightD (d + 1) t = true) (hy : byteD (d + 1) t) (hB5 : 4 < B) (htx : t.text.length ≤ maxLen) (hT : ∀ x ∈ t.kids, TreeAt B b x (printD d x)) : TreeAt B b t (printD (d + 1) t) := by
  intro sl l buf w h hk hp hlen
  obtain ⟨p, cap, rfl, hm⟩ := hk.form
  have HPR : Hid (printD (d + 1) t = hexesP [37, 120] [45] [byteOf t.lo, byteOf t.hi]) := by
    show _ = _
    unfold printD
    simp [hkd]
  have HLE := hlen
  rw [HPR.out] at HLE
  have HL := Lib.hid HLE
  obtain ⟨hal, -⟩ := kind_of_right hr
  have hlt := h.lt
  have hB := h.room
  have HB1 : Hid (Below w.heap.size w (w.alloc (.cells #[.int .u8 t.kind, .string (bs t.text), .int .u8 t.lo, .int .u8 t.hi, .int .i64 t.mn, .int .i64 t.mx, .slice p t.kids.length cap] 25))) := (Below.refl _ _).alloc (Nat.le_refl _) _
  have HP0 := Lib.hid h
  have HP1 := Lib.hid (h.later HB1.out)
  have HK1 := Lib.hid (hk.under (HB1.out.mono hB))
  have HPW1 := Lib.hid (hp.below HB1.out (Nat.lt_of_lt_of_le hB5 hB))
  have HT := Lib.hid hT
  have HY := Lib.hid hy
  have HTX := Lib.hid htx
  have HTV : Hid (treeV t (.slice p t.kids.length cap) = .agg #[.int .u8 t.kind, .string (bs t.text), .int .u8 t.lo, .int .u8 t.hi, .int .i64 t.mn, .int .i64 t.mx, .slice p t.kids.length cap]) := show _ = _ from rfl
  rw [HTV.out, HPR.out]
  have HRW : Hid (∀ (W : World) (g : Nat), g = W.heap.size → ∀ (j : Nat) (x : UInt8), [byteOf t.lo, byteOf t.hi][j]? = some x → (W.alloc (.cells #[.int .u8 t.lo, .int .u8 t.hi] 5)).cell? ⟨g, j, none⟩ = some (.int .u8 x.toNat)) := fun W g hg j x hx => by
    subst hg
    obtain ⟨⟨q0, q1⟩, ⟨q2, q3⟩, _⟩ := HY.out
    rw [cell_of_row _ _ j _ _ (0, 0) (heap_alloc_new W _)]
    match j, hx with
    | 0, hx => injection hx with hx; subst hx; rw [byteOf_toNat _ q0 q1]; rfl
    | 1, hx => injection hx with hx; subst hx; rw [byteOf_toNat _ q2 q3]; rfl
    | j + 2, hx => simp at hx
  rw [hkd] at HB1 HP1 HK1 HPW1 ⊢
  clear hlen h hk hp hT hy hr hal HLE HTV HPR htx hm hkd
  go_enter Tryz.func37, Tryz.ntmps37
  go_wp2_with (go_at_call 77; refine (values_at B b _ 2 2 l [45] [byteOf t.lo, byteOf t.hi] buf (w.alloc (.cells #[.int .u8 4, .string (bs t.text), .int .u8 t.lo, .int .u8 t.hi, .int .i64 t.mn, .int .i64 t.mx, .slice p t.kids.length cap] 25)) _ HP1.out HL.out (by unfold maxLen; simp) (by simp) rfl ((Below.refl _ _).alloc (Nat.le_refl _) _) (by simp) (HRW.out _ _ (by simp))).mono ?_)
  rintro e w2 ⟨rfl, hw2⟩
  have HEND := Lib.hid (hw2.from_later hB HB1.out)
  clear hw2
  go_wp2
  go_end0
  refine ⟨rfl, ?_⟩
  exact HEND.out

end Go.Proofs.YtodenbimeojgdaaGreatDoor

/-
  The contract of (*printer).tree at bytes; then at every right tree. Conditions: the tree is right and lies in memory; its bytes are bytes; Go's own limit on lengths.
-/
namespace Go.Proofs.YtodenbimeojgdaaGreatDoor
open Go.RowKit

set_option maxHeartbeats 2000000 in
set_option maxRecDepth 100000 in
theorem prTree_bytes (d : Nat) (B b : Nat) (t : Tr) (hkd : t.kind = 3) (hr : rightD (d + 1) t = true) (hy : byteD (d + 1) t) (hB5 : 4 < B) (htx : t.text.length ≤ maxLen) (hT : ∀ x ∈ t.kids, TreeAt B b x (printD d x)) : TreeAt B b t (printD (d + 1) t) := by
  intro sl l buf w h hk hp hlen
  obtain ⟨p, cap, rfl, hm⟩ := hk.form
  have HPR : Hid (printD (d + 1) t = hexesP [37, 120] [46] t.text) := by
    show _ = _
    unfold printD
    simp [hkd]
  have HLE := hlen
  rw [HPR.out] at HLE
  have HL := Lib.hid HLE
  obtain ⟨hal, -⟩ := kind_of_right hr
  have hlt := h.lt
  have hB := h.room
  have HB1 : Hid (Below w.heap.size w (w.alloc (.cells #[.int .u8 t.kind, .string (bs t.text), .int .u8 t.lo, .int .u8 t.hi, .int .i64 t.mn, .int .i64 t.mx, .slice p t.kids.length cap] 25))) := (Below.refl _ _).alloc (Nat.le_refl _) _
  have HP0 := Lib.hid h
  have HP1 := Lib.hid (h.later HB1.out)
  have HK1 := Lib.hid (hk.under (HB1.out.mono hB))
  have HPW1 := Lib.hid (hp.below HB1.out (Nat.lt_of_lt_of_le hB5 hB))
  have HT := Lib.hid hT
  have HY := Lib.hid hy
  have HTX := Lib.hid htx
  have HTV : Hid (treeV t (.slice p t.kids.length cap) = .agg #[.int .u8 t.kind, .string (bs t.text), .int .u8 t.lo, .int .u8 t.hi, .int .i64 t.mn, .int .i64 t.mx, .slice p t.kids.length cap]) := show _ = _ from rfl
  rw [HTV.out, HPR.out]
  rw [hkd] at HB1 HP1 HK1 HPW1 ⊢
  clear hlen h hk hp hT hy hr hal HLE HTV HPR htx hm hkd
  have hcv := Lib.run_convert_string_bytes (P := Tryz.prog) (w.alloc (.cells #[.int .u8 3, .string (bs t.text), .int .u8 t.lo, .int .u8 t.hi, .int .i64 t.mn, .int .i64 t.mx, .slice p t.kids.length cap] 25)) 9 82 5 (bs t.text) (u := .string) Tryz.underlying9 Tryz.underlying82 Tryz.underlying5
  have HB2 : Hid (Below (w.alloc (.cells #[.int .u8 3, .string (bs t.text), .int .u8 t.lo, .int .u8 t.hi, .int .i64 t.mn, .int .i64 t.mx, .slice p t.kids.length cap] 25)).heap.size (w.alloc (.cells #[.int .u8 3, .string (bs t.text), .int .u8 t.lo, .int .u8 t.hi, .int .i64 t.mn, .int .i64 t.mx, .slice p t.kids.length cap] 25)) (Lib.bytesWorld (w.alloc (.cells #[.int .u8 3, .string (bs t.text), .int .u8 t.lo, .int .u8 t.hi, .int .i64 t.mn, .int .i64 t.mx, .slice p t.kids.length cap] 25)) 5 (bs t.text))) := ⟨rfl, rfl, rfl, by rw [Lib.bytesWorld_size]; omega, fun k hk => Lib.bytesWorld_at_old _ _ _ k hk⟩
  have HC2 : Hid (∀ g, g = (w.alloc (.cells #[.int .u8 3, .string (bs t.text), .int .u8 t.lo, .int .u8 t.hi, .int .i64 t.mn, .int .i64 t.mx, .slice p t.kids.length cap] 25)).heap.size → ∀ (j : Nat) (x : UInt8), t.text[j]? = some x → (Lib.bytesWorld (w.alloc (.cells #[.int .u8 3, .string (bs t.text), .int .u8 t.lo, .int .u8 t.hi, .int .i64 t.mn, .int .i64 t.mx, .slice p t.kids.length cap] 25)) 5 (bs t.text)).cell? ⟨g, j, none⟩ = some (.int .u8 x.toNat)) := fun g hg j x hx => by
    subst hg
    rw [Lib.bytesWorld_cell _ _ _ j (by rw [bs_len]; exact (List.getElem?_eq_some_iff.1 hx).1), bs_toList, List.getD_eq_getElem?_getD, hx]
    rfl
  have HLT : Hid (∀ g, g = (w.alloc (.cells #[.int .u8 3, .string (bs t.text), .int .u8 t.lo, .int .u8 t.hi, .int .i64 t.mn, .int .i64 t.mx, .slice p t.kids.length cap] 25)).heap.size → g < (Lib.bytesWorld (w.alloc (.cells #[.int .u8 3, .string (bs t.text), .int .u8 t.lo, .int .u8 t.hi, .int .i64 t.mn, .int .i64 t.mx, .slice p t.kids.length cap] 25)) 5 (bs t.text)).heap.size) := fun g hg => by subst hg; rw [Lib.bytesWorld_size]; omega
  obtain ⟨W2, HW2⟩ : ∃ W2, Hid (W2 = Lib.bytesWorld (w.alloc (.cells #[.int .u8 3, .string (bs t.text), .int .u8 t.lo, .int .u8 t.hi, .int .i64 t.mn, .int .i64 t.mx, .slice p t.kids.length cap] 25)) 5 (bs t.text)) := ⟨_, rfl⟩
  rw [← HW2.out] at hcv HB2 HC2 HLT
  clear HW2
  generalize grownCap (w.alloc (.cells #[.int .u8 3, .string (bs t.text), .int .u8 t.lo, .int .u8 t.hi, .int .i64 t.mn, .int .i64 t.mx, .slice p t.kids.length cap] 25)) (bs t.text).size 0 5 = cp at hcv
  have hsz : (w.alloc (.cells #[.int .u8 3, .string (bs t.text), .int .u8 t.lo, .int .u8 t.hi, .int .i64 t.mn, .int .i64 t.mx, .slice p t.kids.length cap] 25)).heap.size = w.heap.size + 1 := by simp
  rw [hsz] at hcv
  clear hsz
  go_enter Tryz.func37, Tryz.ntmps37
  go_wp2_with (go_at_call 77; refine (values_at B b _ _ _ l [46] t.text buf (w.alloc (.cells #[.int .u8 3, .string (bs t.text), .int .u8 t.lo, .int .u8 t.hi, .int .i64 t.mn, .int .i64 t.mx, .slice p t.kids.length cap] 25)) _ HP1.out HL.out HTX.out (by simp) (bs_len _) HB2.out (HLT.out _ (by simp)) (HC2.out _ (by simp))).mono ?_)
  rintro e w2 ⟨rfl, hw2⟩
  have HEND := Lib.hid (hw2.from_later hB HB1.out)
  clear hw2
  go_wp2
  go_end0
  refine ⟨rfl, ?_⟩
  exact HEND.out


/-- texts within Go's bounds, in a tree so deep -/
def textD : Nat → Tr → Prop
  | 0, _ => True
  | d + 1, t => t.text.length ≤ maxLen ∧ (∀ k ∈ t.kids, textD d k)

theorem prTree_any : ∀ (d : Nat) (B b : Nat) (t : Tr), rightD d t = true → byteD d t → textD d t → 4 < B → TreeAt B b t (printD d t) := by
  intro d
  induction d with
  | zero =>
    intro B b t hr
    cases hr
  | succ d ih =>
    intro B b t hr hy htx hB
    obtain ⟨hal, hkr⟩ := kind_of_right hr
    have hT : ∀ x ∈ t.kids, TreeAt B b x (printD d x) := fun x hx => ih B b x (hkr x hx) (hy.2.2 x hx) (htx.2 x hx) hB
    have hkd : t.kind = 1 ∨ t.kind = 2 ∨ t.kind = 3 ∨ t.kind = 4 ∨ t.kind = 5 ∨ t.kind = 6 ∨ t.kind = 7 := by
      unfold aloneB at hal
      by_cases h1 : t.kind = 1
      · exact .inl h1
      by_cases h2 : t.kind = 2
      · exact .inr (.inl h2)
      by_cases h3 : t.kind = 3
      · exact .inr (.inr (.inl h3))
      by_cases h4 : t.kind = 4
      · exact .inr (.inr (.inr (.inl h4)))
      by_cases h5 : t.kind = 5
      · exact .inr (.inr (.inr (.inr (.inl h5))))
      by_cases h6 : t.kind = 6
      · exact .inr (.inr (.inr (.inr (.inr (.inl h6)))))
      by_cases h7 : t.kind = 7
      · exact .inr (.inr (.inr (.inr (.inr (.inr h7)))))
      rw [if_neg h1, if_neg h2, if_neg h3, if_neg h4, if_neg (by omega), if_neg h7] at hal
      cases hal
    rcases hkd with h | h | h | h | h | h | h
    · exact prTree_name d B b t h hr hy hB htx.1 hT
    · exact prTree_chars d B b t h hr hy hB htx.1 hT
    · exact prTree_bytes d B b t h hr hy hB htx.1 hT
    · exact prTree_range d B b t h hr hy hB htx.1 hT
    · exact prTree_row d B b t h hr hy hB htx.1 hT
    · exact prTree_or d B b t h hr hy hB htx.1 hT
    · exact prTree_times d B b t h hr hy hB htx.1 hT
end Go.Proofs.YtodenbimeojgdaaGreatDoor

/-
  The contracts of abnf's small and meaning: what a token means as a leaf. Conditions: a text of at most 65536 bytes; the table of leaves as the program's text lays it.
-/
namespace Go.Proofs.YtodenbimeojgdaaGreatDoor
open Go.RowKit

/-- bytes in memory, that may be written -/
structure BytesAt (w : World) (b : Nat) (l : List UInt8) : Prop where
  cell : ∀ j (h : j < l.length), w.cell? ⟨b, j, none⟩ = some (.int .u8 (l[j].toNat : Int))
  free : ∀ j, j < l.length → w.frozen? ⟨b, j, none⟩ = false
theorem BytesAt.set {w : World} {b : Nat} {l : List UInt8} (h : BytesAt w b l) (k : Nat) (u : UInt8) (hk : k < l.length) : BytesAt (w.setCell ⟨b, k, none⟩ (.int .u8 (u.toNat : Int))) b (l.set k u) := by
  refine ⟨fun j hj => ?_, fun j hj => ?_⟩
  · have hj' : j < l.length := by rw [List.length_set] at hj; exact hj
    by_cases hjk : j = k
    · subst hjk
      rw [World.cell?_setCell_same w _ _ (h.cell j hj')]
      simp
    · rw [World.cell?_setCell_other w _ _ _ (by intro e; injection e with _ e; exact hjk e.symm)]
      rw [h.cell j hj', List.getElem_set_ne (fun e => hjk e.symm)]
  · rw [List.length_set] at hj
    rw [World.frozen?_setCell]
    exact h.free j hj
theorem smallC_great (c : UInt8) (h1 : (65 : Int) ≤ c.toNat) (h2 : (c.toNat : Int) ≤ 90) : ((smallC c).toNat : Int) = (c.toNat : Int) - 65 + 97 := by
  unfold smallC
  rw [if_pos (by constructor <;> (rw [UInt8.le_iff_toNat_le]; simp; omega)), UInt8.toNat_add]
  simp
  omega
theorem smallC_else (c : UInt8) (h : ¬ ((65 : Int) ≤ c.toNat ∧ (c.toNat : Int) ≤ 90)) : smallC c = c := by
  unfold smallC
  rw [if_neg]
  rintro ⟨h1, h2⟩
  rw [UInt8.le_iff_toNat_le] at h1 h2
  simp at h1 h2
  omega
/-- the first bytes small, the others as they were -/
def smallTo (l : List UInt8) (k : Nat) : List UInt8 := (l.take k).map smallC ++ l.drop k
theorem smallTo_len (l : List UInt8) (k : Nat) : (smallTo l k).length = l.length := by
  unfold smallTo
  simp
  omega
theorem smallTo_at (l : List UInt8) (k : Nat) (h : k < l.length) : (smallTo l k)[k]'(by rw [smallTo_len]; exact h) = l[k] := by
  unfold smallTo
  have hl : ((l.take k).map smallC).length = k := by simp; omega
  rw [List.getElem_append_right (by rw [hl]; exact Nat.le_refl _)]
  simp only [hl, Nat.sub_self, List.getElem_drop, Nat.add_zero]
theorem smallTo_step (l : List UInt8) (k : Nat) (h : k < l.length) : smallTo l (k + 1) = (smallTo l k).set k (smallC l[k]) := by
  unfold smallTo
  have hl : ((l.take k).map smallC).length = k := by simp; omega
  rw [List.set_append_right _ _ (by rw [hl]; exact Nat.le_refl _), hl, Nat.sub_self, List.take_succ_eq_append_getElem h, List.map_append, List.append_assoc, List.drop_eq_getElem_cons h]
  rfl
theorem smallTo_same (l : List UInt8) (k : Nat) (h : k < l.length) (hc : smallC l[k] = l[k]) : smallTo l (k + 1) = smallTo l k := by
  rw [smallTo_step l k h, hc, ← smallTo_at l k h]
  simp
theorem smallTo_all (l : List UInt8) : smallTo l l.length = l.map smallC := by
  unfold smallTo
  simp

set_option maxHeartbeats 2000000 in
theorem abSmallText_any (s : ByteArray) (hs : s.size ≤ 65536) (w : World) :
    Calls Tryz.prog 132 #[.string s] w fun e w' => e = .returned (.string (bs (s.data.toList.map smallC))) ∧ Below w.heap.size w w' := by
  have HL := Lib.hid (listLen s)
  have hconv := run_bytes_of_string (P := Tryz.prog) w 9 82 5 s Tryz.underlying9 Tryz.underlying82 Tryz.underlying5
  have hge := grownCap_ge w s.size 0 5
  generalize grownCap w s.size 0 5 = cap at *
  have hC : ∀ j (h : j < s.data.toList.length), (bytesRow s cap)[j]? = some (.int .u8 ((s.data.toList[j]).toNat : Int)) := fun j h => by
    have := bytesRow_at s cap j (by simpa using h)
    simpa using this
  have hCs : s.size ≤ (bytesRow s cap).size := by
    unfold bytesRow
    simp
  generalize bytesRow s cap = C at *
  have hB0 : BytesAt (w.alloc (.cells C 5 (C.size, C.size + 1))).drew w.heap.size (smallTo s.data.toList 0) := by
    have e : smallTo s.data.toList 0 = s.data.toList := by simp [smallTo]
    rw [e]
    refine ⟨fun j hj => ?_, fun j hj => ?_⟩
    · have := World.cell?_alloc_mark w C 5 (C.size, C.size + 1) j
      rw [hC j hj] at this
      exact this
    · have := World.frozen?_alloc_mark w C 5 C.size (C.size + 1) j
      rw [listLen] at hj
      have h2 : (decide (C.size ≤ j) && decide (j < C.size + 1)) = false := by
        rw [show decide (C.size ≤ j) = false from by rw [decide_eq_false_iff_not]; omega]
        rfl
      rw [h2] at this
      exact this
  have hb0 : Below w.heap.size w (w.alloc (.cells C 5 (C.size, C.size + 1))).drew := ((Below.refl _ _).alloc (Nat.le_refl _) _).drew
  have HB0 := Lib.hid hB0
  have Hb0 := Lib.hid hb0
  clear hC hB0 hb0 hCs hge
  go_enter Tryz.func132, Tryz.ntmps132
  go_wp2
  clear hconv
  go_loopw [4, 5, 10] (fun _ _ i wr => ∃ k : Nat, k ≤ s.size ∧ i = .int .i64 k ∧ Below w.heap.size w wr ∧ Hid (BytesAt wr w.heap.size (smallTo s.data.toList k))) (fun _ _ i _ => s.size - (intOf i).toNat)
  case atStart => exact ⟨0, Nat.zero_le _, rfl, Hb0.out, HB0⟩
  case round =>
    clear HB0 Hb0
    obtain ⟨k, hk, rfl, hbel, HB⟩ := hrel
    by_cases hlt : k < s.size
    · have hkl : k < s.data.toList.length := by rw [HL.out]; exact hlt
      have hc := HB.out.cell k (by rw [smallTo_len]; exact hkl)
      rw [smallTo_at _ _ hkl] at hc
      have hf := HB.out.free k (by rw [smallTo_len]; exact hkl)
      have HG := Lib.hid (smallC_great s.data.toList[k])
      have HE := Lib.hid (smallC_else s.data.toList[k])
      have HSET := Lib.hid (HB.out.set k (smallC s.data.toList[k]) (by rw [smallTo_len]; exact hkl))
      rw [← smallTo_step _ _ hkl] at HSET
      have HSAME := Lib.hid (smallTo_same s.data.toList k hkl)
      generalize s.data.toList[k] = c at *
      have hc255 := c.toNat_lt
      have hlt' : (k : Int) < s.size := by omega
      have h0' : (0 : Int) ≤ k := by omega
      by_cases hg : (65 : Int) ≤ c.toNat ∧ (c.toNat : Int) ≤ 90
      · have hh := HG.out hg.1 hg.2
        rw [hh] at HSET
        obtain ⟨hg1, hg2⟩ := hg
        clear hh HG HE HSAME HB
        go_wp2
        go_roundw
        case rel => exact ⟨k + 1, by omega, by go_num, hbel.setCell (Nat.le_refl _) _, HSET⟩
        case measure => simp [intOf]; omega
      · have hsm := HSAME.out (HE.out hg)
        have HB' := HB.out
        rw [← hsm] at HB'
        have HB2 := Lib.hid HB'
        clear HB HB' hsm HG HE HSET HSAME
        by_cases hg1 : (65 : Int) ≤ c.toNat
        · have hg2 : ¬ (c.toNat : Int) ≤ 90 := fun h => hg ⟨hg1, h⟩
          clear hg
          go_wp2
          go_roundw
          case rel => exact ⟨k + 1, by omega, by go_num, hbel, HB2⟩
          case measure => simp [intOf]; omega
        · clear hg
          go_wp2
          go_roundw
          case rel => exact ⟨k + 1, by omega, by go_num, hbel, HB2⟩
          case measure => simp [intOf]; omega
    · have hkk : k = s.size := by omega
      subst hkk
      have hB := HB.out
      rw [← HL.out, smallTo_all] at hB
      have hlen : (s.data.toList.map smallC).length = s.size := by rw [List.length_map, HL.out]
      have hback := run_convert_bytes_back (P := Tryz.prog) wr 82 9 5 ⟨w.heap.size, 0, none⟩ cap (s.data.toList.map smallC) Tryz.underlying82 Tryz.underlying5 Tryz.underlying9 (fun j hj => by
        have hadd : (⟨w.heap.size, 0, none⟩ : Addr).add j = ⟨w.heap.size, j, none⟩ := by unfold Addr.add; split <;> simp_all
        rw [hadd]
        exact hB.cell j hj)
      rw [hlen] at hback
      clear hB hlen HB
      go_wp2
      go_ret
      exact ⟨rfl, hbel⟩
end Go.Proofs.YtodenbimeojgdaaGreatDoor

/-
  The contracts of the parser's meaning, leaf, times and place. Conditions: the reader, the tokens and the table of leaves lie in memory; at most 200000 tokens, of texts of at most 65536 bytes.
-/
namespace Go.Proofs.YtodenbimeojgdaaGreatDoor
open Go.RowKit

def tokV (t : Tk) : Value := .agg #[.int .u8 t.kind, .int .i64 t.place, .string (bs t.text), .int .i64 t.mn, .int .i64 t.mx, .int .u8 t.lo, .int .u8 t.hi]
def leafTab : List Int := [0, 1, 0, 0, 0, 0, 0, 0, 0, 0, 2, 3, 4]
/-- the table of leaves, in its block -/
def LeavesAt (w : World) : Prop := ∀ i k, leafTab[i]? = some k → w.cell? ⟨3, i, none⟩ = some (.int .u8 k)
theorem LeavesAt.below {w w' : World} {B : Nat} (h : LeavesAt w) (hb : Below B w w') (hB : 3 < B) : LeavesAt w' := fun i k hk => (hb.cell (p := ⟨3, i, none⟩) hB).trans (h i k hk)
theorem LeavesAt.lt {w : World} (h : LeavesAt w) : 3 < w.heap.size := World.block_lt_of_cell? w _ (h 0 0 rfl)

def noKids : Value := .slice none 0 0

set_option maxHeartbeats 2000000 in
theorem meaning_name (t : Tk) (hk : t.kind = 1) (ht : t.text.length ≤ 65536) (w : World) (hlv : LeavesAt w) :
    Calls Tryz.prog 110 #[tokV t] w fun e w' => e = .returned (treeV (meaningP t) noKids) ∧ Below w.heap.size w w' := by
  have HM : Hid (meaningP t = .mk 1 (t.text.map smallC) 0 0 0 0 []) := by
    show _ = _
    unfold meaningP
    rw [hk]
    rfl
  have hl1 := hlv 1 1 rfl
  have hlt := hlv.lt
  have HS := Lib.hid (fun W => abSmallText_any (bs t.text) (by rw [bs_len]; exact ht) W)
  rw [bs_toList] at HS
  unfold tokV
  rw [hk, HM.out]
  clear hk hlv HM ht
  go_enter Tryz.func110, Tryz.ntmps110
  go_wp2_with fail
  refine (HS.out _).mono ?_
  rintro e w1 ⟨rfl, hb1⟩
  obtain ⟨hc, hf⟩ := bcell hb1
  have hz : w.heap.size + 3 ≤ w1.heap.size := by have := hb1.size; simp at this; omega
  have HB := Lib.hid hb1
  clear hb1
  go_wp2
  refine bodyPost_ret (v := treeV (.mk 1 (t.text.map smallC) 0 0 0 0 []) noKids) ?_ rfl ⟨rfl, ?_⟩
  · simp [results, Tryz.results110, go_sem, hc]
    rfl
  · have h1 : Below w.heap.size w w1 := ((((Below.refl _ _).alloc (Nat.le_refl _) _).alloc (by simp) _).alloc (by simp; omega) _).trans (HB.out.mono (by simp; omega))
    iterate 8 refine Below.setCell ?_ (by simp <;> omega) _
    exact h1

set_option maxHeartbeats 2000000 in
theorem meaning_chars (t : Tk) (hk : t.kind = 10) (ht : t.text.length ≤ 65536) (w : World) (hlv : LeavesAt w) :
    Calls Tryz.prog 110 #[tokV t] w fun e w' => e = .returned (treeV (meaningP t) noKids) ∧ Below w.heap.size w w' := by
  have HM : Hid (meaningP t = .mk 2 t.text 0 0 0 0 []) := by
    show _ = _
    unfold meaningP
    rw [hk]
    rfl
  have hl1 := hlv 10 2 rfl
  have hlt := hlv.lt
  have HS := Lib.hid (fun W => clone_any (bs t.text) W (by rw [bs_len]; exact ht))
  unfold tokV
  rw [hk, HM.out]
  clear hk hlv HM ht
  go_enter Tryz.func110, Tryz.ntmps110
  go_wp2_with fail
  refine (HS.out _).mono ?_
  rintro e w1 ⟨rfl, hb1⟩
  obtain ⟨hc, hf⟩ := bcell hb1
  have hz : w.heap.size + 3 ≤ w1.heap.size := by have := hb1.size; simp at this; omega
  have HB := Lib.hid hb1
  clear hb1
  go_wp2
  refine bodyPost_ret (v := treeV (.mk 2 t.text 0 0 0 0 []) noKids) ?_ rfl ⟨rfl, ?_⟩
  · simp [results, Tryz.results110, go_sem, hc]
    rfl
  · have h1 : Below w.heap.size w w1 := ((((Below.refl _ _).alloc (Nat.le_refl _) _).alloc (by simp) _).alloc (by simp; omega) _).trans (HB.out.mono (by simp; omega))
    iterate 8 refine Below.setCell ?_ (by simp <;> omega) _
    exact h1

set_option maxHeartbeats 2000000 in
theorem meaning_bytes (t : Tk) (hk : t.kind = 11) (ht : t.text.length ≤ 65536) (w : World) (hlv : LeavesAt w) :
    Calls Tryz.prog 110 #[tokV t] w fun e w' => e = .returned (treeV (meaningP t) noKids) ∧ Below w.heap.size w w' := by
  have HM : Hid (meaningP t = .mk 3 t.text 0 0 0 0 []) := by
    show _ = _
    unfold meaningP
    rw [hk]
    rfl
  have hl1 := hlv 11 3 rfl
  have hlt := hlv.lt
  have HS := Lib.hid (fun W => clone_any (bs t.text) W (by rw [bs_len]; exact ht))
  unfold tokV
  rw [hk, HM.out]
  clear hk hlv HM ht
  go_enter Tryz.func110, Tryz.ntmps110
  go_wp2_with fail
  refine (HS.out _).mono ?_
  rintro e w1 ⟨rfl, hb1⟩
  obtain ⟨hc, hf⟩ := bcell hb1
  have hz : w.heap.size + 3 ≤ w1.heap.size := by have := hb1.size; simp at this; omega
  have HB := Lib.hid hb1
  clear hb1
  go_wp2
  refine bodyPost_ret (v := treeV (.mk 3 t.text 0 0 0 0 []) noKids) ?_ rfl ⟨rfl, ?_⟩
  · simp [results, Tryz.results110, go_sem, hc]
    rfl
  · have h1 : Below w.heap.size w w1 := ((((Below.refl _ _).alloc (Nat.le_refl _) _).alloc (by simp) _).alloc (by simp; omega) _).trans (HB.out.mono (by simp; omega))
    iterate 8 refine Below.setCell ?_ (by simp <;> omega) _
    exact h1

set_option maxHeartbeats 2000000 in
theorem meaning_range (t : Tk) (hk : t.kind = 12) (w : World) (hlv : LeavesAt w) :
    Calls Tryz.prog 110 #[tokV t] w fun e w' => e = .returned (treeV (meaningP t) noKids) ∧ Below w.heap.size w w' := by
  have HM : Hid (meaningP t = .mk 4 [] t.lo t.hi 0 0 []) := by
    show _ = _
    unfold meaningP
    rw [hk]
    rfl
  have hl1 := hlv 12 4 rfl
  have hlt := hlv.lt
  unfold tokV
  rw [hk, HM.out]
  clear hk hlv HM
  go_enter Tryz.func110, Tryz.ntmps110
  go_wp2
  go_region
  all_goals
    go_wp2
    refine bodyPost_ret (v := treeV (.mk 4 [] t.lo t.hi 0 0 []) noKids) ?_ rfl ⟨rfl, ?_⟩
    · simp [results, Tryz.results110, go_sem]
      rfl
    · exact ((((Below.refl _ _).alloc (Nat.le_refl _) _).alloc (by simp) _).alloc (by simp; omega) _).drew
theorem meaning_any (t : Tk) (hk : t.kind = 1 ∨ t.kind = 10 ∨ t.kind = 11 ∨ t.kind = 12) (ht : t.text.length ≤ 65536) (w : World) (hlv : LeavesAt w) :
    Calls Tryz.prog 110 #[tokV t] w fun e w' => e = .returned (treeV (meaningP t) noKids) ∧ Below w.heap.size w w' := by
  rcases hk with hk | hk | hk | hk
  · exact meaning_name t hk ht w hlv
  · exact meaning_chars t hk ht w hlv
  · exact meaning_bytes t hk ht w hlv
  · exact meaning_range t hk w hlv
end Go.Proofs.YtodenbimeojgdaaGreatDoor

/-
  The contracts of the parser's leaf, times and place. Conditions: the reader, the tokens and the table of leaves lie in memory; at most 200000 tokens, of texts of at most 65536 bytes.
-/
namespace Go.Proofs.YtodenbimeojgdaaGreatDoor
open Go.RowKit

/-- but for one block, nothing that was there has turned -/
def Only (r : Nat) (w w' : World) : Prop := w.grownBy w' (some r)
theorem Only.refl (r : Nat) (w : World) : Only r w w := ⟨rfl, rfl, rfl, Nat.le_refl _, fun _ _ _ => rfl⟩
theorem Only.trans {r : Nat} {a b c : World} (h : Only r a b) (k : Only r b c) : Only r a c :=
  ⟨k.os.trans h.os, k.tape.trans h.tape, k.output.trans h.output, Nat.le_trans h.size k.size, fun i hi hr => (k.block i (Nat.lt_of_lt_of_le hi h.size) hr).trans (h.block i hi hr)⟩
theorem Only.of_below {r : Nat} {w w' : World} (h : Below w.heap.size w w') : Only r w w' := ⟨h.os, h.tape, h.output, h.size, fun k hk _ => h.block k hk⟩
theorem Only.set {r : Nat} {a w : World} (h : Only r a w) (i : Nat) (u : Value) : Only r a (w.setCell ⟨r, i, none⟩ u) :=
  h.trans ⟨rfl, rfl, rfl, by simp [World.setCell], fun k _ hr => Below.heap_setCell _ _ _ _ (fun e => hr (by rw [e]))⟩
theorem Only.alloc {r : Nat} {a w : World} (h : Only r a w) (o : Obj) : Only r a (w.alloc o) := h.trans (Only.of_below ((Below.refl _ _).alloc (Nat.le_refl _) _))
theorem Only.drew {r : Nat} {a w : World} (h : Only r a w) : Only r a w.drew := h.trans (Only.of_below (Below.refl _ _).drew)
theorem Only.new {r : Nat} {a w : World} (h : Only r a w) {p : Addr} (hp : a.heap.size ≤ p.block) (u : Value) : Only r a (w.setCell p u) :=
  ⟨h.os, h.tape, h.output, by simp [World.setCell]; exact h.size, fun k hk hr => (Below.heap_setCell _ _ _ _ (fun e => by omega)).trans (h.block k hk hr)⟩

theorem Rd.later {w w' : World} {r : Nat} {A : Option Addr} {n c : Nat} {toks : List Tk} {at_ : Nat} {vo : Value} (h : Rd w r A n c toks at_ vo) (hb : Below w.heap.size w w') : Rd w' r A n c toks at_ vo :=
  ⟨h.blk.below hb h.blk.lt, h.row.below hb, h.len, h.far, h.le, h.most⟩
theorem TokRow.only {w w' : World} {r : Nat} {A : Option Addr} {n c : Nat} {toks : List Tk} (h : TokRow w (.slice A n c) toks) (hb : Only r w w') (far : ∀ a, A = some a → a.block < r) : TokRow w' (.slice A n c) toks := by
  obtain ⟨A', c', hv, hA⟩ := h
  injection hv with h1 h2 h3
  subst h1
  refine ⟨A, c, by rw [h2], fun hp => ?_⟩
  obtain ⟨g, off, rfl, hg, hc⟩ := hA hp
  have hne : some g ≠ some r := fun e => by injection e with e; have := far _ rfl; simp at this; omega
  exact ⟨g, off, rfl, by have := hb.size; omega, fun j u hu => (World.cell?_of_block (a := ⟨g, off + j, none⟩) (hb.block g hg hne)).trans (hc j u hu)⟩
theorem Rd.to {w w' : World} {r : Nat} {A : Option Addr} {n c : Nat} {toks : List Tk} {at_ at2 : Nat} {vo : Value} (h : Rd w r A n c toks at_ vo) (hb : Only r w w') (hblk : Blk w' r 70 #[.slice A n c, .int .i64 at2, vo]) (hle : at2 ≤ n) : Rd w' r A n c toks at2 vo :=
  ⟨hblk, h.row.only hb h.far, h.len, h.far, hle, h.most⟩
theorem LeavesAt.only {w w' : World} {r : Nat} (h : LeavesAt w) (hb : Only r w w') (hr : 3 < r) : LeavesAt w' := fun i k hk =>
  (World.cell?_of_block (a := ⟨3, i, none⟩) (hb.block 3 h.lt (fun e => by injection e with e; omega))).trans (h i k hk)

theorem Blk.other {w : World} {g : Nat} {t : TypeId} {cs : Array Value} (h : Blk w g t cs) {p : Addr} (hp : g ≠ p.block) (u : Value) : Blk (w.setCell p u) g t cs := (Below.heap_setCell _ _ _ _ hp).trans h
/-- texts that are not too long -/
def Short (toks : List Tk) : Prop := ∀ (i : Nat) t, toks[i]? = some t → t.text.length ≤ 65536
def leafV : Option Tr → Value
  | none => .tuple #[treeV noTree noKids, .bool false]
  | some t => .tuple #[treeV t noKids, .bool true]
def leafTo (at_ : Nat) : Option Tr → Nat
  | none => at_
  | some _ => at_ + 1

theorem meaningP_kids (t : Tk) : (meaningP t).kids = [] := by
  unfold meaningP
  split
  · rfl
  · split <;> rfl
theorem meaningP_text (t : Tk) : (meaningP t).text.length ≤ t.text.length := by
  unfold meaningP
  split
  · simp [Tr.text]
  · split <;> simp [Tr.text]

/-- what the reader and its next token are, cell by cell -/
theorem token_kept {B : Nat} {W w2 : World} {r g o : Nat} {v u k p tx a b l h : Value} (hb : Below B W w2) (hr : r < B) (hg : g < B)
    (hS : W.cell? ⟨r, 0, none⟩ = some v ∧ W.cell? ⟨r, 1, none⟩ = some u ∧ W.cell? ⟨g, o, none⟩ = some k ∧ W.cell? ⟨g, o + 1, none⟩ = some p ∧ W.cell? ⟨g, o + 2, none⟩ = some tx ∧ W.cell? ⟨g, o + 3, none⟩ = some a ∧ W.cell? ⟨g, o + 4, none⟩ = some b ∧ W.cell? ⟨g, o + 5, none⟩ = some l ∧ W.cell? ⟨g, o + 6, none⟩ = some h) :
    w2.cell? ⟨r, 0, none⟩ = some v ∧ w2.cell? ⟨r, 1, none⟩ = some u ∧ w2.cell? ⟨g, o, none⟩ = some k ∧ w2.cell? ⟨g, o + 1, none⟩ = some p ∧ w2.cell? ⟨g, o + 2, none⟩ = some tx ∧ w2.cell? ⟨g, o + 3, none⟩ = some a ∧ w2.cell? ⟨g, o + 4, none⟩ = some b ∧ w2.cell? ⟨g, o + 5, none⟩ = some l ∧ w2.cell? ⟨g, o + 6, none⟩ = some h := by
  have hc : ∀ b o, b < B → w2.cell? ⟨b, o, none⟩ = W.cell? ⟨b, o, none⟩ := fun b o h => hb.cell (p := ⟨b, o, none⟩) h
  simp only [hc r _ hr, hc g _ hg]
  exact hS
set_option maxHeartbeats 1600000 in
theorem leaf_any (w : World) (r : Nat) (A : Option Addr) (n c : Nat) (toks : List Tk) (at_ : Nat) (vo : Value) (h : Rd w r A n c toks at_ vo) (hlv : LeavesAt w) (hgr : 3 < r) (hsh : Short toks)
    (b kc : Nat) (ks : List Int) (hk : KindsAt w b ks) (hkn : ks.length ≤ 1000) (hks : ∀ k, ks.contains k = true → k = 1 ∨ k = 10 ∨ k = 11 ∨ k = 12) :
    Calls Tryz.prog 67 #[.pointer (some ⟨r, 0, none⟩), .slice (some ⟨b, 0, none⟩) ks.length kc] w fun e w' =>
      e = .returned (leafV (leafP toks at_ ks)) ∧ Rd w' r A n c toks (leafTo at_ (leafP toks at_ ks)) vo ∧ Only r w w' := by
  have HST := Lib.hid (stands_yes (w.alloc (.cells #[.int .u8 0, .string ⟨#[]⟩, .int .u8 0, .int .u8 0, .int .i64 0, .int .i64 0, .slice none 0 0] 25)) r A n c toks at_ vo (h.later ((Below.refl _ _).alloc (Nat.le_refl _) _)) b kc ks (fun i k hik => by
    have := hk i k hik
    rw [← this]
    exact Below.cell (B := w.heap.size) ((Below.refl _ _).alloc (Nat.le_refl _) _) (World.block_lt_of_cell? w _ this)) hkn)
  have HL : Hid (leafP toks at_ ks = match toks[at_]? with | none => none | some t => if ks.contains t.kind = true ∧ rightB (meaningP t) = true then some (meaningP t) else none) := show _ = _ from rfl
  have HS : Hid (standsP toks at_ ks = match toks[at_]? with | none => false | some t => ks.contains t.kind) := show _ = _ from rfl
  clear hk hkn
  generalize ks.length = kn at *
  cases hst : standsP toks at_ ks with
  | false =>
    have HN : Hid (leafP toks at_ ks = none) := by
      show leafP toks at_ ks = none
      rw [HL.out]
      have hs := HS.out
      rw [hst] at hs
      cases ht : toks[at_]? with
      | none => rfl
      | some t =>
        rw [ht] at hs
        simp only at hs ⊢
        rw [if_neg (by rw [← hs]; simp)]
    rw [HN.out]
    rw [hst] at HST
    clear HL HS HN hst
    go_enter Tryz.func67, Tryz.ntmps67
    go_wp2_with fail
    refine HST.out.mono ?_
    rintro e w1 ⟨rfl, m1, rfl⟩
    have hbel : Below w.heap.size w ((w.alloc (.cells #[.int .u8 0, .string ⟨#[]⟩, .int .u8 0, .int .u8 0, .int .i64 0, .int .i64 0, .slice none 0 0] 25)).drewN m1) := below_drewN ((Below.refl _ _).alloc (Nat.le_refl _) _) _
    go_wp2
    have hset : Below w.heap.size w (((((((((w.alloc (.cells #[.int .u8 0, .string ⟨#[]⟩, .int .u8 0, .int .u8 0, .int .i64 0, .int .i64 0, .slice none 0 0] 25)).drewN m1).setCell ⟨w.heap.size, 0, none⟩ (.int .u8 0)).setCell ⟨w.heap.size, 1, none⟩ (.string ⟨#[]⟩)).setCell ⟨w.heap.size, 2, none⟩ (.int .u8 0)).setCell ⟨w.heap.size, 3, none⟩ (.int .u8 0)).setCell ⟨w.heap.size, 4, none⟩ (.int .i64 0)).setCell ⟨w.heap.size, 5, none⟩ (.int .i64 0)).setCell ⟨w.heap.size, 6, none⟩ (.slice none 0 0)) := by
      iterate 7 refine Below.setCell ?_ (by simp) _
      exact hbel
    refine bodyPost_ret (v := leafV none) ?_ rfl ⟨rfl, h.later hset, Only.of_below hset⟩
    simp [results, Tryz.results67, go_sem]
    rfl
  | true =>
    obtain ⟨t, ht, hct⟩ : ∃ t, toks[at_]? = some t ∧ ks.contains t.kind = true := by
      have hs := HS.out
      rw [hst] at hs
      cases ht : toks[at_]? with
      | none => rw [ht] at hs; cases hs
      | some t => rw [ht] at hs; exact ⟨t, rfl, hs.symm⟩
    have hlt : at_ < n := by
      have := (List.getElem?_eq_some_iff.1 ht).1
      rw [h.len] at this
      exact this
    have HLL : Hid (leafP toks at_ ks = if rightB (meaningP t) = true then some (meaningP t) else none) := by
      show _ = _
      rw [HL.out, ht]
      simp only [hct, true_and]
    have hmost := h.most
    have HME := Lib.hid (fun W (hW : LeavesAt W) => meaning_any t (hks _ hct) (hsh _ _ ht) W hW)
    have htx : (meaningP t).text.length ≤ maxLen := by
      have := meaningP_text t
      have := hsh _ _ ht
      unfold maxLen
      omega
    have HRT := Lib.hid (fun W => abRight_any (meaningP t) noKids W (by rw [meaningP_kids]; exact .nil _ _) htx)
    have HT := Lib.hid ht
    rw [hst] at HST
    generalize leafP toks at_ ks = LP at *
    have HTV : Hid (∀ (x : Tr), treeV x noKids = .agg #[.int .u8 x.kind, .string (bs x.text), .int .u8 x.lo, .int .u8 x.hi, .int .i64 x.mn, .int .i64 x.mx, .slice none 0 0]) := show ∀ x, _ from fun x => rfl
    rw [HTV.out] at HME HRT
    clear HL HS hst hct ht hks hsh htx
    generalize hmp : meaningP t = mp at *
    clear hmp
    go_enter Tryz.func67, Tryz.ntmps67
    go_wp2_with fail
    refine HST.out.mono ?_
    rintro e w1 ⟨rfl, m1, rfl⟩
    have hbel : Below w.heap.size w ((w.alloc (.cells #[.int .u8 0, .string ⟨#[]⟩, .int .u8 0, .int .u8 0, .int .i64 0, .int .i64 0, .slice none 0 0] 25)).drewN m1) := below_drewN ((Below.refl _ _).alloc (Nat.le_refl _) _) _
    have hres : Blk ((w.alloc (.cells #[.int .u8 0, .string ⟨#[]⟩, .int .u8 0, .int .u8 0, .int .i64 0, .int .i64 0, .slice none 0 0] 25)).drewN m1) w.heap.size 25 #[.int .u8 0, .string ⟨#[]⟩, .int .u8 0, .int .u8 0, .int .i64 0, .int .i64 0, .slice none 0 0] := Blk.new w _ _
    generalize hW1 : (w.alloc (.cells #[.int .u8 0, .string ⟨#[]⟩, .int .u8 0, .int .u8 0, .int .i64 0, .int .i64 0, .slice none 0 0] 25)).drewN m1 = W1 at *
    clear hW1 HST
    have h1 := h.later hbel
    have hlv1 := hlv.below hbel (Nat.lt_trans hgr h.blk.lt)
    have hrlt := h.blk.lt
    obtain ⟨g, off, rfl, hg, a0, a1, a2, a3, a4, a5, a6⟩ := h1.row.at_ HT.out
    have c0 : W1.cell? ⟨r, 0, none⟩ = some (.slice (some ⟨g, off, none⟩) n c) := h1.blk.cell 0
    have c1 : W1.cell? ⟨r, 1, none⟩ = some (.int .i64 at_) := h1.blk.cell 1
    have HS1 := Lib.hid (And.intro c0 (And.intro c1 (And.intro a0 (And.intro a1 (And.intro a2 (And.intro a3 (And.intro a4 (And.intro a5 a6))))))))
    have hr1 := h1.blk.lt
    have H1 := Lib.hid h1
    have H0 := Lib.hid h
    have HL1 := Lib.hid hlv1
    have hlt' : (at_ : Int) < n := by omega
    have h0' : (0 : Int) ≤ at_ := by omega
    clear h h1 hlv hlv1 c0 c1 a0 a1 a2 a3 a4 a5 a6
    have hS1 := HS1.out
    have hbB : Below W1.heap.size W1 (W1.alloc (.cells #[.int .u8 0, .string ⟨#[]⟩, .int .u8 0, .int .u8 0, .int .i64 0, .int .i64 0, .slice none 0 0] 25)).drew := ((Below.refl _ _).alloc (Nat.le_refl _) _).drew
    have HLA : Hid (LeavesAt W1.drew) := HL1.out
    have HLB : Hid (LeavesAt (W1.alloc (.cells #[.int .u8 0, .string ⟨#[]⟩, .int .u8 0, .int .u8 0, .int .i64 0, .int .i64 0, .slice none 0 0] 25)).drew) := HL1.out.below hbB HL1.out.lt
    have HSB := Lib.hid (token_kept hbB hr1 hg hS1)
    have HSA := Lib.hid (token_kept (Below.refl _ _).drew hr1 hg hS1)
    have HzB : Hid (W1.heap.size ≤ (W1.alloc (.cells #[.int .u8 0, .string ⟨#[]⟩, .int .u8 0, .int .u8 0, .int .i64 0, .int .i64 0, .slice none 0 0] 25)).drew.heap.size) := hbB.size
    have HBB := Lib.hid hbB
    have HT1 : Hid (Blk (W1.alloc (.cells #[.int .u8 0, .string ⟨#[]⟩, .int .u8 0, .int .u8 0, .int .i64 0, .int .i64 0, .slice none 0 0] 25)).drew W1.heap.size 25 #[.int .u8 0, .string ⟨#[]⟩, .int .u8 0, .int .u8 0, .int .i64 0, .int .i64 0, .slice none 0 0]) := Blk.new W1 _ _
    unfold tokV at HME
    clear hS1 hbB
    go_wp2_with fail
    go_region_held3 (fun W => W.cell? ⟨r, 0, none⟩ = some (.slice (some ⟨g, off, none⟩) n c) ∧ W.cell? ⟨r, 1, none⟩ = some (.int .i64 at_) ∧ W.cell? ⟨g, off + at_ * 7, none⟩ = some (.int .u8 t.kind) ∧ W.cell? ⟨g, off + at_ * 7 + 1, none⟩ = some (.int .i64 t.place) ∧ W.cell? ⟨g, off + at_ * 7 + 2, none⟩ = some (.string (bs t.text)) ∧ W.cell? ⟨g, off + at_ * 7 + 3, none⟩ = some (.int .i64 t.mn) ∧ W.cell? ⟨g, off + at_ * 7 + 4, none⟩ = some (.int .i64 t.mx) ∧ W.cell? ⟨g, off + at_ * 7 + 5, none⟩ = some (.int .u8 t.lo) ∧ W.cell? ⟨g, off + at_ * 7 + 6, none⟩ = some (.int .u8 t.hi))
      (first | (with_reducible exact HS1.out) | (with_reducible exact HSA.out) | (with_reducible exact HSB.out) | (with_reducible exact hS2.out) | (with_reducible refine token_kept (B := W1.heap.size) ?_ hr1 hg HS1.out; exact (Below.refl _ _).alloc (Nat.le_refl _) _) | (with_reducible refine token_kept (B := W1.heap.size) ?_ hr1 hg HS1.out; exact HB2.out.alloc HB2.out.size _) | (with_reducible refine token_kept (B := W1.heap.size) ?_ hr1 hg HS1.out; (iterate 7 refine Below.setCell ?_ (by first | exact Nat.le_refl _ | exact HB2.out.size) _); exact HB2.out) | (with_reducible refine token_kept (B := W1.heap.size) ?_ hr1 hg HS1.out; (iterate 7 refine Below.setCell ?_ (by first | exact Nat.le_refl _ | exact HB2.out.size) _); exact HB2.out.alloc HB2.out.size _))
      (first | (go_at_call 110; (first | (with_reducible refine (HME.out W1.drew HLA.out).mono ?_) | (with_reducible refine (HME.out _ HLB.out).mono ?_)); rintro e w2 ⟨rfl, hb2⟩; (first | (have hS2 := Lib.hid (token_kept hb2 hr1 hg HSA.out); have hr2 : r < w2.heap.size := Nat.lt_of_lt_of_le hr1 hb2.size; have hg2 : g < w2.heap.size := Nat.lt_of_lt_of_le hg hb2.size; have HB2 := Lib.hid ((Below.refl W1.heap.size W1).drew.trans hb2)) | (have hS2 := Lib.hid (token_kept hb2 (Nat.lt_of_lt_of_le hr1 HzB.out) (Nat.lt_of_lt_of_le hg HzB.out) HSB.out); have hr2 : r < w2.heap.size := Nat.lt_of_lt_of_le hr1 (Nat.le_trans HzB.out hb2.size); have hg2 : g < w2.heap.size := Nat.lt_of_lt_of_le hg (Nat.le_trans HzB.out hb2.size); have HB2 := Lib.hid (HBB.out.trans (hb2.mono HzB.out)); have hcT := (HT1.out.below hb2 HT1.out.lt).cell; have hfT := (HT1.out.below hb2 HT1.out.lt).frozen))))
    · have hB6 : Blk (w2.alloc (.cells #[.int .u8 mp.kind, .string (bs mp.text), .int .u8 mp.lo, .int .u8 mp.hi, .int .i64 mp.mn, .int .i64 mp.mx, .slice none 0 0] 25)) w2.heap.size 25 #[.int .u8 mp.kind, .string (bs mp.text), .int .u8 mp.lo, .int .u8 mp.hi, .int .i64 mp.mn, .int .i64 mp.mx, .slice none 0 0] := Blk.new _ _ _
      have hb3 : Below W1.heap.size W1 (w2.alloc (.cells #[.int .u8 mp.kind, .string (bs mp.text), .int .u8 mp.lo, .int .u8 mp.hi, .int .i64 mp.mn, .int .i64 mp.mx, .slice none 0 0] 25)) := HB2.out.alloc HB2.out.size _
      have hrB : r < w2.heap.size := hr2
      have hrB' : ¬ r = w2.heap.size := by omega
      have hrB2 : ¬ w2.heap.size = r := by omega
      clear hS2 hr2 hg2 HB2 hb2 HSA HSB HzB HBB HT1 HLA HLB HS1
      generalize w2.alloc (.cells #[.int .u8 mp.kind, .string (bs mp.text), .int .u8 mp.lo, .int .u8 mp.hi, .int .i64 mp.mn, .int .i64 mp.mx, .slice none 0 0] 25) = W3 at *
      generalize w2.heap.size = B6 at *
      have hcB := hB6.cell
      have hfB := hB6.frozen
      have hz3 := hb3.size
      have hBlt := hB6.lt
      go_wp2_with fail
      refine (HRT.out _).mono ?_
      rintro e w4 ⟨rfl, hb4⟩
      have hB4 := (hB6.below hb4 hB6.lt)
      have hcB4 := hB4.cell
      have hb14 : Below W1.heap.size W1 w4 := hb3.trans (hb4.mono hz3)
      have hbw4 : Below w.heap.size w w4 := hbel.trans (hb14.mono hbel.size)
      have hres4 := (hres.below hb14 hres.lt)
      have hcs4 := hres4.cell
      have hfs4 := hres4.frozen
      have hrd4 := H1.out.later hb14
      have hcr4 := hrd4.blk.cell
      have hfr4 := hrd4.blk.frozen
      have HW4 := Lib.hid hbw4
      have HR4 := Lib.hid hrd4
      have hne : r ≠ w.heap.size := by omega
      clear hcB hfB hB6 hb4 hB4 hb14 hbw4 hres4 hrd4 hb3
      cases hr : rightB mp with
      | false =>
        have HLP : Hid (LP = none) := by
          show LP = none
          rw [HLL.out, hr]
          rfl
        go_wp2
        refine bodyPost_ret (v := leafV LP) ?_ rfl ⟨rfl, ?_, ?_⟩
        · rw [HLP.out]
          simp [results, Tryz.results67, go_sem, hcs4]
          rfl
        · rw [HLP.out]
          refine H0.out.later ?_
          iterate 7 refine Below.setCell ?_ (by simp) _
          exact HW4.out
        · refine Only.of_below ?_
          iterate 7 refine Below.setCell ?_ (by simp) _
          exact HW4.out
      | true =>
        have HLP : Hid (LP = some mp) := by
          show LP = some mp
          rw [HLL.out, hr]
          rfl
        go_wp2
        refine bodyPost_ret (v := leafV LP) ?_ rfl ⟨rfl, ?_, ?_⟩
        · rw [HLP.out]
          simp [results, Tryz.results67, go_sem, hcs4]
          rfl
        · rw [HLP.out]
          refine H0.out.to (at2 := at_ + 1) ?_ ?_ (by omega)
          · iterate 7 refine Only.new ?_ (by simp) _
            exact (Only.of_below HW4.out).set 1 _
          · iterate 7 refine Blk.other ?_ (by simpa using hne) _
            have := HR4.out.blk.set_ 1 (.int .i64 ((at_ : Int) + 1))
            exact this
        · iterate 7 refine Only.new ?_ (by simp) _
          exact (Only.of_below HW4.out).set 1 _
    · have hB6 : Blk (((((((w2.setCell ⟨W1.heap.size, 0, none⟩ (.int .u8 mp.kind)).setCell ⟨W1.heap.size, 1, none⟩ (.string (bs mp.text))).setCell ⟨W1.heap.size, 2, none⟩ (.int .u8 mp.lo)).setCell ⟨W1.heap.size, 3, none⟩ (.int .u8 mp.hi)).setCell ⟨W1.heap.size, 4, none⟩ (.int .i64 mp.mn)).setCell ⟨W1.heap.size, 5, none⟩ (.int .i64 mp.mx)).setCell ⟨W1.heap.size, 6, none⟩ (.slice none 0 0)) W1.heap.size 25 #[.int .u8 mp.kind, .string (bs mp.text), .int .u8 mp.lo, .int .u8 mp.hi, .int .i64 mp.mn, .int .i64 mp.mx, .slice none 0 0] := (((((((HT1.out.below hb2 HT1.out.lt).set_ 0 (.int .u8 mp.kind)).set_ 1 (.string (bs mp.text))).set_ 2 (.int .u8 mp.lo)).set_ 3 (.int .u8 mp.hi)).set_ 4 (.int .i64 mp.mn)).set_ 5 (.int .i64 mp.mx)).set_ 6 (.slice none 0 0)
      have hb3 : Below W1.heap.size W1 (((((((w2.setCell ⟨W1.heap.size, 0, none⟩ (.int .u8 mp.kind)).setCell ⟨W1.heap.size, 1, none⟩ (.string (bs mp.text))).setCell ⟨W1.heap.size, 2, none⟩ (.int .u8 mp.lo)).setCell ⟨W1.heap.size, 3, none⟩ (.int .u8 mp.hi)).setCell ⟨W1.heap.size, 4, none⟩ (.int .i64 mp.mn)).setCell ⟨W1.heap.size, 5, none⟩ (.int .i64 mp.mx)).setCell ⟨W1.heap.size, 6, none⟩ (.slice none 0 0)) := by
        iterate 7 refine Below.setCell ?_ (by simp) _
        exact HB2.out
      clear hS2 hr2 hg2 HB2 hb2 HSA HSB HzB HBB HT1 HLA HLB HS1 hcT hfT
      generalize (((((((w2.setCell ⟨W1.heap.size, 0, none⟩ (.int .u8 mp.kind)).setCell ⟨W1.heap.size, 1, none⟩ (.string (bs mp.text))).setCell ⟨W1.heap.size, 2, none⟩ (.int .u8 mp.lo)).setCell ⟨W1.heap.size, 3, none⟩ (.int .u8 mp.hi)).setCell ⟨W1.heap.size, 4, none⟩ (.int .i64 mp.mn)).setCell ⟨W1.heap.size, 5, none⟩ (.int .i64 mp.mx)).setCell ⟨W1.heap.size, 6, none⟩ (.slice none 0 0)) = W3 at *
      have hcB := hB6.cell
      have hfB := hB6.frozen
      have hz3 := hb3.size
      have hBlt := hB6.lt
      go_wp2_with fail
      refine (HRT.out _).mono ?_
      rintro e w4 ⟨rfl, hb4⟩
      have hB4 := (hB6.below hb4 hB6.lt)
      have hcB4 := hB4.cell
      have hb14 : Below W1.heap.size W1 w4 := hb3.trans (hb4.mono hz3)
      have hbw4 : Below w.heap.size w w4 := hbel.trans (hb14.mono hbel.size)
      have hres4 := (hres.below hb14 hres.lt)
      have hcs4 := hres4.cell
      have hfs4 := hres4.frozen
      have hrd4 := H1.out.later hb14
      have hcr4 := hrd4.blk.cell
      have hfr4 := hrd4.blk.frozen
      have HW4 := Lib.hid hbw4
      have HR4 := Lib.hid hrd4
      have hne : r ≠ w.heap.size := by omega
      clear hcB hfB hB6 hb4 hB4 hb14 hbw4 hres4 hrd4 hb3
      cases hr : rightB mp with
      | false =>
        have HLP : Hid (LP = none) := by
          show LP = none
          rw [HLL.out, hr]
          rfl
        go_wp2
        refine bodyPost_ret (v := leafV LP) ?_ rfl ⟨rfl, ?_, ?_⟩
        · rw [HLP.out]
          simp [results, Tryz.results67, go_sem, hcs4]
          rfl
        · rw [HLP.out]
          refine H0.out.later ?_
          iterate 7 refine Below.setCell ?_ (by simp) _
          exact HW4.out
        · refine Only.of_below ?_
          iterate 7 refine Below.setCell ?_ (by simp) _
          exact HW4.out
      | true =>
        have HLP : Hid (LP = some mp) := by
          show LP = some mp
          rw [HLL.out, hr]
          rfl
        go_wp2
        refine bodyPost_ret (v := leafV LP) ?_ rfl ⟨rfl, ?_, ?_⟩
        · rw [HLP.out]
          simp [results, Tryz.results67, go_sem, hcs4]
          rfl
        · rw [HLP.out]
          refine H0.out.to (at2 := at_ + 1) ?_ ?_ (by omega)
          · iterate 7 refine Only.new ?_ (by simp) _
            exact (Only.of_below HW4.out).set 1 _
          · iterate 7 refine Blk.other ?_ (by simpa using hne) _
            have := HR4.out.blk.set_ 1 (.int .i64 ((at_ : Int) + 1))
            exact this
        · iterate 7 refine Only.new ?_ (by simp) _
          exact (Only.of_below HW4.out).set 1 _
end Go.Proofs.YtodenbimeojgdaaGreatDoor

/-
  The contracts of the parser's times and place. Conditions: the reader and the tokens lie in memory; at most 200000 tokens.
-/
namespace Go.Proofs.YtodenbimeojgdaaGreatDoor
open Go.RowKit

theorem stands_at (w : World) (r : Nat) (A : Option Addr) (n c : Nat) (toks : List Tk) (at_ : Nat) (vo : Value) (h : Rd w r A n c toks at_ vo) (b kc kn : Nat) (ks : List Int) (hk : KindsAt w b ks) (hkn : ks.length = kn) (hks : kn ≤ 1000) (q : Bool) (hq : standsP toks at_ ks = q) :
    Calls Tryz.prog 68 #[.pointer (some ⟨r, 0, none⟩), .slice (some ⟨b, 0, none⟩) kn kc] w fun e w' => e = .returned (.bool q) ∧ ∃ m, w' = w.drewN m := by
  subst hkn hq
  exact stands_yes w r A n c toks at_ vo h b kc ks hk hks
theorem kinds_new (w : World) (ks : List Int) (cs : Array Value) (hcs : cs.toList = ks.map (Value.int .u8)) (t : TypeId) : KindsAt (w.alloc (.cells cs t)) w.heap.size ks := fun i k hk => by
  rw [(Blk.new w t cs).cell i]
  have : cs.toList[i]? = some (.int .u8 k) := by rw [hcs, List.getElem?_map, hk]; rfl
  simpa using this

def zeroT : Array Value := #[.int .u8 0, .string ⟨#[]⟩, .int .u8 0, .int .u8 0, .int .i64 0, .int .i64 0, .slice none 0 0]

set_option maxHeartbeats 800000 in
theorem times_any (w : World) (r : Nat) (A : Option Addr) (n c : Nat) (toks : List Tk) (at_ : Nat) (vo : Value) (h : Rd w r A n c toks at_ vo) :
    Calls Tryz.prog 134 #[.pointer (some ⟨r, 0, none⟩)] w fun e w' =>
      e = .returned (treeV (howP toks at_).1 noKids) ∧ Rd w' r A n c toks (howP toks at_).2 vo ∧ Only r w w' := by
  have HH : Hid (howP toks at_ = match toks[at_]? with | none => (noTree, at_) | some t => if t.kind = 9 ∧ timesB t.mn t.mx = true then (timesT t.mn t.mx, at_ + 1) else (noTree, at_)) := show _ = _ from rfl
  have HS : Hid (standsP toks at_ [9] = match toks[at_]? with | none => false | some t => [9].contains t.kind) := show _ = _ from rfl
  have hb0 : Below w.heap.size w ((w.alloc (.cells #[.int .u8 0, .string ⟨#[]⟩, .int .u8 0, .int .u8 0, .int .i64 0, .int .i64 0, .slice none 0 0] 25)).alloc (.cells #[.int .u8 9] 5)) := ((Below.refl _ _).alloc (Nat.le_refl _) _).alloc (by simp) _
  have hres0 : Blk ((w.alloc (.cells #[.int .u8 0, .string ⟨#[]⟩, .int .u8 0, .int .u8 0, .int .i64 0, .int .i64 0, .slice none 0 0] 25)).alloc (.cells #[.int .u8 9] 5)) w.heap.size 25 #[.int .u8 0, .string ⟨#[]⟩, .int .u8 0, .int .u8 0, .int .i64 0, .int .i64 0, .slice none 0 0] := (Blk.new w _ _).alloc _
  have hkd := kinds_new (w.alloc (.cells #[.int .u8 0, .string ⟨#[]⟩, .int .u8 0, .int .u8 0, .int .i64 0, .int .i64 0, .slice none 0 0] 25)) [9] #[.int .u8 9] rfl 5
  rw [show (w.alloc (.cells #[.int .u8 0, .string ⟨#[]⟩, .int .u8 0, .int .u8 0, .int .i64 0, .int .i64 0, .slice none 0 0] 25)).heap.size = w.heap.size + 1 from by simp] at hkd
  have HST := Lib.hid (fun q hq => stands_at _ r A n c toks at_ vo (h.later hb0) (w.heap.size + 1) 1 1 [9] hkd rfl (by omega) q hq)
  have hr := h.blk.lt
  clear hkd
  cases hst : standsP toks at_ [9] with
  | false =>
    have HN : Hid (howP toks at_ = (noTree, at_)) := by
      show howP toks at_ = _
      rw [HH.out]
      have hs := HS.out
      rw [hst] at hs
      cases ht : toks[at_]? with
      | none => rfl
      | some t =>
        rw [ht] at hs
        simp only at hs ⊢
        rw [if_neg]
        rintro ⟨h9, _⟩
        rw [h9] at hs
        exact absurd hs (by decide)
    rw [HN.out]
    have HST2 := Lib.hid (HST.out false hst)
    clear HH HS HST hst
    have HB0 := Lib.hid hb0
    have H0 := Lib.hid h
    have HRS := Lib.hid hres0
    clear hb0 h hres0
    go_enter Tryz.func134, Tryz.ntmps134
    go_wp2_with fail
    refine HST2.out.mono ?_
    rintro e w1 ⟨rfl, m1, rfl⟩
    go_wp2
    refine bodyPost_ret (v := treeV noTree noKids) ?_ rfl ⟨rfl, ?_, ?_⟩
    · simp [results, Tryz.results134, go_sem]
      rfl
    · refine H0.out.later ?_
      iterate 7 refine Below.setCell ?_ (by simp) _
      exact below_drewN HB0.out _
    · refine Only.of_below ?_
      iterate 7 refine Below.setCell ?_ (by simp) _
      exact below_drewN HB0.out _
  | true =>
    obtain ⟨t, ht, hct⟩ : ∃ t, toks[at_]? = some t ∧ t.kind = 9 := by
      have hs := HS.out
      rw [hst] at hs
      cases ht : toks[at_]? with
      | none => rw [ht] at hs; cases hs
      | some t => rw [ht] at hs; exact ⟨t, rfl, by simpa using hs.symm⟩
    have hlt : at_ < n := by
      have := (List.getElem?_eq_some_iff.1 ht).1
      rw [h.len] at this
      exact this
    have HN : Hid (howP toks at_ = if timesB t.mn t.mx = true then (timesT t.mn t.mx, at_ + 1) else (noTree, at_)) := by
      show howP toks at_ = _
      rw [HH.out, ht]
      simp only [hct, true_and]
    have hmost := h.most
    have HT := Lib.hid ht
    have HST2 := Lib.hid (HST.out true hst)
    clear HH HS HST hst ht
    generalize howP toks at_ = HP at *
    go_enter Tryz.func134, Tryz.ntmps134
    go_wp2_with fail
    refine HST2.out.mono ?_
    rintro e w1 ⟨rfl, m1, rfl⟩
    have hbel := below_drewN hb0 m1
    have hres : Blk (((w.alloc (.cells #[.int .u8 0, .string ⟨#[]⟩, .int .u8 0, .int .u8 0, .int .i64 0, .int .i64 0, .slice none 0 0] 25)).alloc (.cells #[.int .u8 9] 5)).drewN m1) w.heap.size 25 #[.int .u8 0, .string ⟨#[]⟩, .int .u8 0, .int .u8 0, .int .i64 0, .int .i64 0, .slice none 0 0] := hres0
    generalize hW1 : ((w.alloc (.cells #[.int .u8 0, .string ⟨#[]⟩, .int .u8 0, .int .u8 0, .int .i64 0, .int .i64 0, .slice none 0 0] 25)).alloc (.cells #[.int .u8 9] 5)).drewN m1 = W1 at *
    clear hW1 HST2 hb0 hres0
    have h1 := h.later hbel
    obtain ⟨g, off, rfl, hg, a0, a1, a2, a3, a4, a5, a6⟩ := h1.row.at_ HT.out
    have c0 : W1.cell? ⟨r, 0, none⟩ = some (.slice (some ⟨g, off, none⟩) n c) := h1.blk.cell 0
    have c1 : W1.cell? ⟨r, 1, none⟩ = some (.int .i64 at_) := h1.blk.cell 1
    have hr1 := h1.blk.lt
    have H1 := Lib.hid h1
    have H0 := Lib.hid h
    have hlt' : (at_ : Int) < n := by omega
    have h0' : (0 : Int) ≤ at_ := by omega
    clear h h1
    have HRS := Lib.hid hres
    have HB := Lib.hid hbel
    clear hbel hres
    go_wp2_with fail
    go_region
    have hB0 : Blk (W1.alloc (.cells #[.int .u8 9, .int .i64 t.place, .string (bs t.text), .int .i64 t.mn, .int .i64 t.mx, .int .u8 t.lo, .int .u8 t.hi] 77)).drew w.heap.size 25 #[.int .u8 0, .string ⟨#[]⟩, .int .u8 0, .int .u8 0, .int .i64 0, .int .i64 0, .slice none 0 0] := HRS.out.alloc _
    have hBr : Blk (W1.alloc (.cells #[.int .u8 9, .int .i64 t.place, .string (bs t.text), .int .i64 t.mn, .int .i64 t.mx, .int .u8 t.lo, .int .u8 t.hi] 77)).drew r 70 #[.slice (some ⟨g, off, none⟩) n c, .int .i64 at_, vo] := H1.out.blk.alloc _
    have hBt : Blk (W1.alloc (.cells #[.int .u8 9, .int .i64 t.place, .string (bs t.text), .int .i64 t.mn, .int .i64 t.mx, .int .u8 t.lo, .int .u8 t.hi] 77)).drew W1.heap.size 77 #[.int .u8 9, .int .i64 t.place, .string (bs t.text), .int .i64 t.mn, .int .i64 t.mx, .int .u8 t.lo, .int .u8 t.hi] := Blk.new _ _ _
    have HB2 : Hid (Below w.heap.size w (W1.alloc (.cells #[.int .u8 9, .int .i64 t.place, .string (bs t.text), .int .i64 t.mn, .int .i64 t.mx, .int .u8 t.lo, .int .u8 t.hi] 77)).drew) := (HB.out.alloc HB.out.size _).drew
    have hlts := HRS.out.lt
    have hne : ¬ r = w.heap.size := by omega
    have hne2 : ¬ w.heap.size = r := by omega
    have hne3 : ¬ r = W1.heap.size := by omega
    have hne4 : ¬ W1.heap.size = r := by omega
    have hne5 : ¬ w.heap.size = W1.heap.size := by omega
    have hne6 : ¬ W1.heap.size = w.heap.size := by omega
    clear a0 a1 a2 a3 a4 a5 a6 c0 c1 HRS HB H1 hg hr1 hlts
    generalize (W1.alloc (.cells #[.int .u8 9, .int .i64 t.place, .string (bs t.text), .int .i64 t.mn, .int .i64 t.mx, .int .u8 t.lo, .int .u8 t.hi] 77)).drew = W2 at *
    generalize W1.heap.size = T at *
    have hcs := hB0.cell
    have hfs := hB0.frozen
    have hcr := hBr.cell
    have hfr := hBr.frozen
    have hct2 := hBt.cell
    have HBR := Lib.hid hBr
    clear hB0 hBr hBt
    cases htb : timesB t.mn t.mx with
    | false =>
      have HTI := Lib.hid (fun W => abTimes_any t.mn t.mx W)
      rw [htb] at HTI HN
      have HP2 : Hid (HP = (noTree, at_)) := HN.out
      clear HN htb
      go_wp2_with (go_at_call 120; refine (HTI.out _).mono ?_; rintro e w' ⟨rfl, rfl⟩)
      refine bodyPost_ret (v := treeV HP.1 noKids) ?_ rfl ⟨rfl, ?_, ?_⟩
      · rw [HP2.out]
        simp [results, Tryz.results134, go_sem, hcs]
        rfl
      · rw [HP2.out]
        refine H0.out.later ?_
        iterate 7 refine Below.setCell ?_ (by simp) _
        exact HB2.out
      · refine Only.of_below ?_
        iterate 7 refine Below.setCell ?_ (by simp) _
        exact HB2.out
    | true =>
      have HTI := Lib.hid (fun W => abTimes_any t.mn t.mx W)
      rw [htb] at HTI HN
      have HP2 : Hid (HP = (timesT t.mn t.mx, at_ + 1)) := HN.out
      clear HN htb
      go_wp2_with (go_at_call 120; refine (HTI.out _).mono ?_; rintro e w' ⟨rfl, rfl⟩)
      refine bodyPost_ret (v := treeV HP.1 noKids) ?_ rfl ⟨rfl, ?_, ?_⟩
      · rw [HP2.out]
        simp [results, Tryz.results134, go_sem, hcs]
        rfl
      · rw [HP2.out]
        refine H0.out.to (at2 := at_ + 1) ?_ ?_ (by omega)
        · iterate 7 refine Only.new ?_ (by simp) _
          exact (Only.of_below HB2.out).set 1 _
        · iterate 7 refine Blk.other ?_ (by simpa using hne) _
          have := HBR.out.set_ 1 (.int .i64 ((at_ : Int) + 1))
          exact this
      · iterate 7 refine Only.new ?_ (by simp) _
        exact (Only.of_below HB2.out).set 1 _

set_option maxHeartbeats 1600000 in
theorem place_any (w : World) (r : Nat) (A : Option Addr) (n c : Nat) (toks : List Tk) (at_ : Nat) (vo : Value) (h : Rd w r A n c toks at_ vo) (hn : 0 < n) :
    Calls Tryz.prog 30 #[.pointer (some ⟨r, 0, none⟩)] w fun e w' => e = .returned (.int .i64 (placeP toks at_)) ∧ Below w.heap.size w w' := by
  obtain ⟨k, hk⟩ : ∃ k, k = min at_ (n - 1) := ⟨_, rfl⟩
  have hkn : k < n := by omega
  obtain ⟨t, ht⟩ : ∃ t, toks[k]? = some t := ⟨_, List.getElem?_eq_getElem (by rw [h.len]; exact hkn)⟩
  have HP : Hid (placeP toks at_ = t.place) := by
    show placeP toks at_ = _
    unfold placeP
    rw [h.len, ← hk, List.getD_eq_getElem?_getD, ht]
    rfl
  generalize placeP toks at_ = PL at *
  obtain ⟨g, off, rfl, hg, a0, a1, a2, a3, a4, a5, a6⟩ := h.row.at_ ht
  have c0 : w.cell? ⟨r, 0, none⟩ = some (.slice (some ⟨g, off, none⟩) n c) := h.blk.cell 0
  have c1 : w.cell? ⟨r, 1, none⟩ = some (.int .i64 at_) := h.blk.cell 1
  have hmost := h.most
  have hle := h.le
  have e1 : IntKind.i64.wrap ((n : Int) - 1) = (n : Int) - 1 := IntWalk.i64_in _ (by omega)
  have hlt' : (k : Int) < n := by omega
  have h0' : (0 : Int) ≤ k := by omega
  clear ht h a0 a2 a3 a4 a5 a6
  by_cases hat : at_ < n
  · have hkk : k = at_ := by omega
    subst hkk
    clear hk
    have e2 : min (k : Int) ((n : Int) - 1) = k := by omega
    go_enter Tryz.func30, Tryz.ntmps30
    go_wp2_with fail
    go_region
    go_wp2
    go_ret
    exact ⟨ret_int HP.out.symm, (Below.refl _ _).drew⟩
  · have hkk : k = n - 1 := by omega
    have hcast : ((n : Int) - 1) = (k : Int) := by omega
    have e2 : min (at_ : Int) (k : Int) = k := by omega
    have e3 : IntKind.i64.wrap (k : Int) = k := IntWalk.i64_in _ (by omega)
    clear hk hkk e1
    go_enter Tryz.func30, Tryz.ntmps30
    go_wp2_with fail
    go_region
    go_wp2
    go_ret
    exact ⟨ret_int HP.out.symm, (Below.refl _ _).drew⟩
end Go.Proofs.YtodenbimeojgdaaGreatDoor

/-
  The contracts of the parser's together and repeat. Conditions: the kids lie in memory.
-/
namespace Go.Proofs.YtodenbimeojgdaaGreatDoor
open Go.RowKit

/-- trees in a row, each with its kids' slice -/
abbrev Trow := List (Tr × Value)
def flatT (ps : Trow) : List Value := ps.flatMap fun p => headCells p.1 p.2
def trees (ps : Trow) : List Tr := ps.map Prod.fst
theorem flatT_snoc (ps : Trow) (p : Tr × Value) : flatT (ps ++ [p]) = flatT ps ++ headCells p.1 p.2 := by simp [flatT]
theorem flatT_len (ps : Trow) : (flatT ps).length = ps.length * 7 := by
  induction ps with
  | nil => rfl
  | cons p r ih =>
    have e : flatT (p :: r) = headCells p.1 p.2 ++ flatT r := by simp [flatT]
    rw [e, List.length_append, ih, headCells_len, List.length_cons]
    omega
theorem flatT_at : ∀ (ps : Trow) (k : Nat) (p : Tr × Value), ps[k]? = some p → ∀ j, j < 7 → (flatT ps)[k * 7 + j]? = (headCells p.1 p.2)[j]? := by
  intro ps
  induction ps with
  | nil => intro k p h; simp at h
  | cons a r ih =>
    intro k p h j hj
    have e : flatT (a :: r) = headCells a.1 a.2 ++ flatT r := by simp [flatT]
    rw [e]
    cases k with
    | zero =>
      have : a = p := by simpa using h
      subst this
      rw [Nat.zero_mul, Nat.zero_add, List.getElem?_append_left (by rw [headCells_len]; exact hj)]
    | succ k =>
      rw [List.getElem?_append_right (by rw [headCells_len]; omega), headCells_len, show (k + 1) * 7 + j - 7 = k * 7 + j from by omega]
      exact ih k p (by simpa using h) j hj

/-- each tree of a row has its kids in memory -/
def KidsAll (w : World) (F : Nat → Prop) (ps : Trow) : Prop := ∀ p ∈ ps, KidsAt w F p.1.kids p.2 ∧ p.1.text.length ≤ maxLen
theorem KidsAll.later {w w' : World} {F F' : Nat → Prop} {ps : Trow} (h : KidsAll w F ps) (hs : w.heap.size ≤ w'.heap.size) (hf : ∀ b, b < w.heap.size → F b → F' b ∧ w'.heap[b]? = w.heap[b]?) : KidsAll w' F' ps :=
  fun p hp => ⟨(h p hp).1.later hs hf, (h p hp).2⟩

/-- a row that is owned is kids -/
theorem KidsAt.of_row {w : World} {F : Nat → Prop} {base : Nat} {v : Value} {ps : Trow} (hown : w.ownsRow base 25 7 v ps.length (flatT ps)) (hk : KidsAll w F ps) (hF : ∀ b, v.ownBlock = some b → F b) : KidsAt w F (trees ps) v := by
  rcases hown.2 with ⟨rfl, h0⟩ | ⟨g, cap, cur, rfl, hg, hh, hnc, hcm, hcs, htake⟩
  · rw [List.eq_nil_of_length_eq_zero h0]
    exact .nil _ _
  · by_cases hn : ps.length = 0
    · rw [List.eq_nil_of_length_eq_zero hn]
      exact .nil _ _
    · have hl : (trees ps).length = ps.length := by simp [trees]
      have := KidsAt.row (w := w) (S := F) (trees ps) g 0 cap (fun i => (ps.getD i (noTree, noKids)).2) (hF g rfl) (Array.getElem?_eq_some_iff.1 hh).1 (by omega) (by omega) (by omega)
        (fun i hi => by
          have hi' : i < ps.length := by rw [hl] at hi; exact hi
          have := (hk ps[i] (List.getElem_mem hi')).2
          simpa [trees] using this)
        (fun i hi j u hu => by
          have hi' : i < ps.length := by rw [hl] at hi; exact hi
          have hp : ps[i]? = some ps[i] := List.getElem?_eq_getElem hi'
          have e1 : (trees ps)[i] = ps[i].1 := by simp [trees]
          have e2 : (ps.getD i (noTree, noKids)).2 = ps[i].2 := by rw [List.getD_eq_getElem?_getD, hp]; rfl
          rw [e1, e2] at hu
          have hj : j < 7 := by
            have := (List.getElem?_eq_some_iff.1 hu).1
            rw [headCells_len] at this
            exact this
          have hc := hown.cellAt (i * 7 + j) (by omega)
          rw [flatT_at ps i _ hp j hj, hu] at hc
          rw [Nat.zero_add]
          exact hc)
        (fun i hi => by
          have hi' : i < ps.length := by rw [hl] at hi; exact hi
          have hp : ps[i]? = some ps[i] := List.getElem?_eq_getElem hi'
          have e1 : (trees ps)[i] = ps[i].1 := by simp [trees]
          have e2 : (ps.getD i (noTree, noKids)).2 = ps[i].2 := by rw [List.getD_eq_getElem?_getD, hp]; rfl
          rw [e1, e2]
          exact (hk ps[i] (List.getElem_mem hi')).1)
      rw [hl] at this
      exact this

/-- the slice of what stands together -/
def togSl (ps : Trow) (v : Value) : Value := if ps.length = 1 then (ps.getD 0 (noTree, noKids)).2 else v
theorem togetherP_row (kind : Int) (ps : Trow) : togetherP kind (trees ps) = if ps.length = 1 then (ps.getD 0 (noTree, noKids)).1 else .mk kind [] 0 0 0 0 (trees ps) := by
  unfold togetherP
  have hl : (trees ps).length = ps.length := by simp [trees]
  rw [hl]
  by_cases h : ps.length = 1
  · rw [if_pos h, if_pos h]
    match ps, h with
    | [p], _ => rfl
  · rw [if_neg h, if_neg h]
theorem together_kids {w : World} {F : Nat → Prop} {base : Nat} {v : Value} {ps : Trow} (kind : Int) (hown : w.ownsRow base 25 7 v ps.length (flatT ps)) (hk : KidsAll w F ps) (hF : ∀ b, v.ownBlock = some b → F b) :
    KidsAt w F (togetherP kind (trees ps)).kids (togSl ps v) ∧ (togetherP kind (trees ps)).text.length ≤ maxLen := by
  rw [togetherP_row]
  unfold togSl
  by_cases h : ps.length = 1
  · rw [if_pos h, if_pos h]
    match ps, h, hk with
    | [p], _, hk => exact hk p (by simp)
  · rw [if_neg h, if_neg h]
    exact ⟨KidsAt.of_row hown hk hF, by simp [Tr.text]⟩

set_option maxHeartbeats 800000 in
theorem together_any (w : World) (F : Nat → Prop) (base : Nat) (v : Value) (ps : Trow) (kind : Int) (hown : w.ownsRow base 25 7 v ps.length (flatT ps)) (hk : KidsAll w F ps) (hn : ps.length ≤ 200000) :
    Calls Tryz.prog 138 #[.int .u8 kind, v] w fun e w' => e = .returned (treeV (togetherP kind (trees ps)) (togSl ps v)) ∧ Below w.heap.size w w' := by
  have HT := Lib.hid (togetherP_row kind ps)
  have HS : Hid (togSl ps v = if ps.length = 1 then (ps.getD 0 (noTree, noKids)).2 else v) := show _ = _ from rfl
  generalize togetherP kind (trees ps) = TP at *
  generalize togSl ps v = TS at *
  by_cases h1 : ps.length = 1
  · obtain ⟨p, rfl⟩ : ∃ p, ps = [p] := by
      match ps, h1 with
      | [p], _ => exact ⟨p, rfl⟩
    obtain ⟨g, cap, rfl, _, hglt⟩ := hown.form (by simp)
    obtain ⟨pp, pc, hsl, _⟩ := (hk p (by simp)).1.form
    have hc := fun j u hj hu => (hown.cellAt j hj).trans (show _ = some u from hu)
    have c0 := hc 0 (.int .u8 p.1.kind) (by simp) rfl
    have c1 := hc 1 (.string (bs p.1.text)) (by simp) rfl
    have c2 := hc 2 (.int .u8 p.1.lo) (by simp) rfl
    have c3 := hc 3 (.int .u8 p.1.hi) (by simp) rfl
    have c4 := hc 4 (.int .i64 p.1.mn) (by simp) rfl
    have c5 := hc 5 (.int .i64 p.1.mx) (by simp) rfl
    have c6 := hc 6 p.2 (by simp) rfl
    rw [hsl] at c6
    have HT2 : Hid (TP = p.1) := HT.out
    have HS2 : Hid (TS = .slice pp p.1.kids.length pc) := HS.out.trans hsl
    clear HT HS hc hown hk hn hsl
    have hone : (1 : Int) ≤ ([p].length : Nat) := by simp
    simp only [List.length_singleton] at *
    go_enter Tryz.func138, Tryz.ntmps138
    go_wp2
    refine bodyPost_ret (v := treeV TP TS) ?_ rfl ⟨rfl, ?_⟩
    · rw [HT2.out, HS2.out]
      simp [results, Tryz.results138, go_sem]
      rfl
    · first
        | exact (Below.refl _ _).alloc (Nat.le_refl _) _
        | (iterate 7 refine Below.setCell ?_ (by simp) _
           exact (Below.refl _ _).alloc (Nat.le_refl _) _)
  · rw [if_neg h1] at HT HS
    obtain ⟨A, c, rfl⟩ : ∃ A c, v = .slice A ps.length c := by
      rcases hown.2 with ⟨rfl, h0⟩ | ⟨g, cap, cur, rfl, _⟩
      · exact ⟨none, 0, by rw [h0]⟩
      · exact ⟨_, cap, rfl⟩
    have hb1 : ((ps.length : Int) == 1) = false := by
      rw [beq_eq_false_iff_ne]
      omega
    clear hown hk h1
    generalize ps.length = n at *
    go_enter Tryz.func138, Tryz.ntmps138
    go_wp2
    refine bodyPost_ret (v := treeV TP TS) ?_ rfl ⟨rfl, ?_⟩
    · rw [HT.out, HS.out]
      simp [results, Tryz.results138, go_sem]
      rfl
    · first
        | exact (Below.refl _ _).alloc (Nat.le_refl _) _
        | (iterate 7 refine Below.setCell ?_ (by simp) _
           exact (Below.refl _ _).alloc (Nat.le_refl _) _)

/-- one kid, in a block of its own -/
theorem KidsAt.one {w : World} {F : Nat → Prop} {b : Nat} {t : Tr} {sl : Value} (hB : Blk w b 25 (headCells t sl).toArray) (hF : F b) (hk : KidsAt w F t.kids sl) (ht : t.text.length ≤ maxLen) : KidsAt w F [t] (.slice (some ⟨b, 0, none⟩) 1 1) :=
  .row [t] b 0 1 (fun _ => sl) hF hB.lt (by simp) (by simp) (by simp [maxLen]) (fun i hi => by
      have : i = 0 := by simpa using hi
      subst this
      exact ht) (fun i hi j u hu => by
      have : i = 0 := by simpa using hi
      subst this
      rw [Nat.zero_mul, Nat.zero_add, hB.cell j]
      simpa using hu) (fun i hi => by
      have : i = 0 := by simpa using hi
      subst this
      exact hk)
theorem KidsAt.same {w w' : World} {F : Nat → Prop} {ks : List Tr} {sl : Value} (h : KidsAt w F ks sl) (hb : Below w.heap.size w w') : KidsAt w' F ks sl := h.later hb.size (fun b hl hB => ⟨hB, hb.block b hl⟩)

/-- behind repeat: the tree's kids, in memory -/
def Repeated (w : World) (F : Nat → Prop) (tm kid : Tr) (e : Ending) (w' : World) : Prop :=
  ∃ sl, e = .returned (treeV (repeatP tm kid) sl) ∧ KidsAt w' F (repeatP tm kid).kids sl ∧ (repeatP tm kid).text.length ≤ maxLen ∧ Below w.heap.size w w'
set_option maxHeartbeats 800000 in
theorem repeat_any (w : World) (F : Nat → Prop) (tm kid : Tr) (sl : Value) (htt : tm.text.length ≤ maxLen) (hk : KidsAt w F kid.kids sl) (hkt : kid.text.length ≤ maxLen) (hF : ∀ b, w.heap.size ≤ b → F b) :
    Calls Tryz.prog 136 #[treeV tm noKids, treeV kid sl] w fun e w' => Repeated w F tm kid e w' := by
  obtain ⟨kp, kc, rfl, _⟩ := hk.form
  generalize hkn : kid.kids.length = kn at *
  have HKN := Lib.hid hkn
  clear hkn
  have HR : Hid (repeatP tm kid = if tm.kind = 7 then .mk 7 tm.text tm.lo tm.hi tm.mn tm.mx [kid] else kid) := show _ = _ from rfl
  have HK := Lib.hid hk
  clear hk
  unfold Repeated
  generalize repeatP tm kid = RP at *
  unfold treeV noKids
  by_cases h7 : tm.kind = 7
  · rw [if_pos h7] at HR
    rw [h7]
    have HH7 := Lib.hid h7
    clear h7
    go_enter Tryz.func136, Tryz.ntmps136
    go_wp2
    refine bodyPost_ret (v := treeV RP (.slice (some ⟨w.heap.size + 3, 0, none⟩) 1 1)) ?_ rfl ⟨_, rfl, ?_, ?_, ?_⟩
    · rw [HR.out]
      simp [results, Tryz.results136, go_sem]
      rfl
    · rw [HR.out]
      refine KidsAt.one (t := kid) (sl := .slice kp kn kc) ?_ (hF _ (by omega)) (HK.out.same ?_) hkt
      · exact Blk.new_at _ _ _ _ (by simp)
      · exact ((((Below.refl _ _).alloc (Nat.le_refl _) _).alloc (by simp) _).alloc (by simp; omega) _).alloc (by simp; omega) _
    · rw [HR.out]; exact htt
    · exact ((((Below.refl _ _).alloc (Nat.le_refl _) _).alloc (by simp) _).alloc (by simp; omega) _).alloc (by simp; omega) _
  · rw [if_neg h7] at HR
    have hb7 : (tm.kind == 7) = false := by rw [beq_eq_false_iff_ne]; exact h7
    have hb7' : (tm.kind != 7) = true := by rw [bne_iff_ne]; exact h7
    clear h7
    go_enter Tryz.func136, Tryz.ntmps136
    go_wp2
    refine bodyPost_ret (v := treeV RP (.slice kp kn kc)) ?_ rfl ⟨_, rfl, ?_, ?_, ?_⟩
    · rw [HR.out]
      simp [results, Tryz.results136, go_sem]
      rfl
    · rw [HR.out]
      refine HK.out.same ?_
      exact (((Below.refl _ _).alloc (Nat.le_refl _) _).alloc (by simp) _).alloc (by simp; omega) _
    · rw [HR.out]; exact hkt
    · exact (((Below.refl _ _).alloc (Nat.le_refl _) _).alloc (by simp) _).alloc (by simp; omega) _
end Go.Proofs.YtodenbimeojgdaaGreatDoor

/-
  How the parser's groups lie in memory, and what stays when the innermost one turns. No conditions.
-/
namespace Go.Proofs.YtodenbimeojgdaaGreatDoor
open Go.RowKit

/-- a group, with its lists' slices -/
structure GG where
  shut : Int
  times : Tr
  rows : Trow
  parts : Trow
  vr : Value
  vp : Value
def GG.grp (g : GG) : Grp := { shut := g.shut, times := g.times, rows := trees g.rows, parts := trees g.parts }
def gCells (g : GG) : List Value := [.int .u8 g.shut, .int .u8 g.times.kind, .string (bs g.times.text), .int .u8 g.times.lo, .int .u8 g.times.hi, .int .i64 g.times.mn, .int .i64 g.times.mx, .slice none 0 0, g.vr, g.vp]
theorem gCells_len (g : GG) : (gCells g).length = 10 := rfl
def gsCells (gs : List GG) : List Value := gs.flatMap gCells
theorem gsCells_snoc (gs : List GG) (g : GG) : gsCells (gs ++ [g]) = gsCells gs ++ gCells g := by simp [gsCells]
theorem gsCells_len (gs : List GG) : (gsCells gs).length = gs.length * 10 := by
  induction gs with
  | nil => rfl
  | cons g r ih =>
    have e : gsCells (g :: r) = gCells g ++ gsCells r := by simp [gsCells]
    rw [e, List.length_append, ih, gCells_len, List.length_cons]
    omega
def gBlocks (g : GG) : List Nat := g.vr.ownBlock.toList ++ g.vp.ownBlock.toList
def owned (ob : Nat) (gs : List GG) : List Nat := ob :: gs.flatMap gBlocks
/-- blocks that are nobody's to write -/
def Done (ex : List Nat) (r ob : Nat) (gs : List GG) (b : Nat) : Prop := b ∉ ex ∧ b ∉ r :: owned ob gs

structure GAt (w : World) (F : Nat → Prop) (base : Nat) (g : GG) : Prop where
  rows : w.ownsRow base 25 7 g.vr g.rows.length (flatT g.rows)
  parts : w.ownsRow base 25 7 g.vp g.parts.length (flatT g.parts)
  krows : KidsAll w F g.rows
  kparts : KidsAll w F g.parts
  tkids : g.times.kids = []
  ttext : g.times.text.length ≤ maxLen
theorem GAt.lt {w : World} {F : Nat → Prop} {base : Nat} {g : GG} (h : GAt w F base g) : ∀ b ∈ gBlocks g, base ≤ b ∧ b < w.heap.size := by
  intro b hb
  rcases List.mem_append.1 hb with hb | hb
  · exact h.rows.lt b (by simpa using hb)
  · exact h.parts.lt b (by simpa using hb)
theorem ownsRow_same {w w' : World} {base : Nat} {e : TypeId} {size : Nat} {v : Value} {n : Nat} {xs : List Value} (h : w.ownsRow base e size v n xs) (hs : ∀ b, v.ownBlock = some b → w'.heap[b]? = w.heap[b]?) : w'.ownsRow base e size v n xs := by
  refine ⟨h.1, ?_⟩
  rcases h.2 with hn | ⟨g, cap, cur, hv, hg, hh, r⟩
  · exact .inl hn
  · exact .inr ⟨g, cap, cur, hv, hg, by rw [hs g (by rw [hv]; rfl)]; exact hh, r⟩
theorem GAt.same {w w' : World} {F F' : Nat → Prop} {base : Nat} {g : GG} (h : GAt w F base g) (hsz : w.heap.size ≤ w'.heap.size) (hg : ∀ b ∈ gBlocks g, w'.heap[b]? = w.heap[b]?) (hf : ∀ b, b < w.heap.size → F b → F' b ∧ w'.heap[b]? = w.heap[b]?) : GAt w' F' base g :=
  ⟨ownsRow_same h.rows (fun b hb => hg b (List.mem_append.2 (.inl (by simpa using hb)))), ownsRow_same h.parts (fun b hb => hg b (List.mem_append.2 (.inr (by simpa using hb)))), h.krows.later hsz hf, h.kparts.later hsz hf, h.tkids, h.ttext⟩

/-- the parser, with its groups -/
structure SAt (w : World) (r base : Nat) (ex : List Nat) (A : Option Addr) (n c : Nat) (toks : List Tk) (at_ ob oc : Nat) (gs : List GG) : Prop where
  rd : Rd w r A n c toks at_ (.slice (some ⟨ob, 0, none⟩) gs.length oc)
  own : w.ownsRow base 154 10 (.slice (some ⟨ob, 0, none⟩) gs.length oc) gs.length (gsCells gs)
  each : ∀ g ∈ gs, GAt w (Done ex r ob gs) base g
  nodup : (r :: owned ob gs).Nodup
  hr : r < base
  hbase : base ≤ w.heap.size
  lv : LeavesAt w
  glv : 3 < r
  few : ∀ g ∈ gs, g.rows.length + g.parts.length ≤ at_
  fewer : gs.length ≤ at_ + 1
  exlt : ∀ b ∈ ex, b < w.heap.size
  exo : ∀ b ∈ ex, b ∉ owned ob gs

theorem SAt.ob_lt {w : World} {r base : Nat} {ex : List Nat} {A : Option Addr} {n c : Nat} {toks : List Tk} {at_ ob oc : Nat} {gs : List GG} (h : SAt w r base ex A n c toks at_ ob oc gs) : base ≤ ob ∧ ob < w.heap.size := h.own.lt ob rfl
theorem SAt.owned_lt {w : World} {r base : Nat} {ex : List Nat} {A : Option Addr} {n c : Nat} {toks : List Tk} {at_ ob oc : Nat} {gs : List GG} (h : SAt w r base ex A n c toks at_ ob oc gs) : ∀ b ∈ owned ob gs, base ≤ b ∧ b < w.heap.size := by
  intro b hb
  rcases List.mem_cons.1 hb with rfl | hb
  · exact h.ob_lt
  · obtain ⟨g, hg, hb⟩ := List.mem_flatMap.1 hb
    exact (h.each g hg).lt b hb
theorem Rd.under {w w' : World} {B r : Nat} {A : Option Addr} {n c : Nat} {toks : List Tk} {at_ : Nat} {vo : Value} (h : Rd w r A n c toks at_ vo) (hb : Below B w w') (hr : r < B) : Rd w' r A n c toks at_ vo := by
  refine ⟨h.blk.below hb hr, ?_, h.len, h.far, h.le, h.most⟩
  obtain ⟨A', c', hv, hA⟩ := h.row
  injection hv with h1 h2 h3
  subst h1
  refine ⟨A, c, by rw [h2], fun hp => ?_⟩
  obtain ⟨g, off, rfl, hg, hc⟩ := hA hp
  have hgr := h.far _ rfl
  exact ⟨g, off, rfl, by have := hb.size; omega, fun j u hu => (hb.cell (p := ⟨g, off + j, none⟩) (by simp at hgr ⊢; omega)).trans (hc j u hu)⟩

/-- nothing has turned -/
theorem SAt.later {w w' : World} {r base : Nat} {ex : List Nat} {A : Option Addr} {n c : Nat} {toks : List Tk} {at_ ob oc : Nat} {gs : List GG} (h : SAt w r base ex A n c toks at_ ob oc gs) (hb : Below w.heap.size w w') : SAt w' r base ex A n c toks at_ ob oc gs :=
  ⟨h.rd.later hb, ownsRow_kept h.own hb, fun g hg => (h.each g hg).same hb.size (fun b hbl => hb.block b ((h.each g hg).lt b hbl).2) (fun b hl hF => ⟨hF, hb.block b hl⟩), h.nodup, h.hr, Nat.le_trans h.hbase hb.size, h.lv.below hb h.lv.lt, h.glv, h.few, h.fewer, fun b hb2 => Nat.lt_of_lt_of_le (h.exlt b hb2) hb.size, h.exo⟩

/-- the reader's place alone has turned -/
theorem SAt.only {w w' : World} {r base : Nat} {ex : List Nat} {A : Option Addr} {n c : Nat} {toks : List Tk} {at_ at2 ob oc : Nat} {gs : List GG} (h : SAt w r base ex A n c toks at_ ob oc gs) (hb : Only r w w') (hrd : Rd w' r A n c toks at2 (.slice (some ⟨ob, 0, none⟩) gs.length oc)) (hle : at_ ≤ at2) : SAt w' r base ex A n c toks at2 ob oc gs := by
  have hne : ∀ b ∈ owned ob gs, b ≠ r := fun b hbl e => (List.nodup_cons.1 h.nodup).1 (e ▸ hbl)
  have hsame : ∀ b ∈ owned ob gs, w'.heap[b]? = w.heap[b]? := fun b hbl => hb.block b (h.owned_lt b hbl).2 (fun e => hne b hbl (Option.some.inj e))
  refine ⟨hrd, ownsRow_same h.own (fun b hbl => ?_), fun g hg => (h.each g hg).same hb.size (fun b hbl => hsame b (List.mem_cons.2 (.inr (List.mem_flatMap.2 ⟨g, hg, hbl⟩)))) (fun b hl hF => ⟨hF, ?_⟩), h.nodup, h.hr, Nat.le_trans h.hbase hb.size, h.lv.only hb h.glv, h.glv, fun g hg => Nat.le_trans (h.few g hg) hle, Nat.le_trans h.fewer (by omega), fun b hb2 => Nat.lt_of_lt_of_le (h.exlt b hb2) hb.size, h.exo⟩
  · have : ob = b := by simpa [Value.ownBlock] using hbl
    subst this
    exact hsame ob (List.mem_cons.2 (.inl rfl))
  · exact hb.block b hl (fun e => hF.2 (by rw [Option.some.inj e]; exact List.mem_cons.2 (.inl rfl)))

theorem owned_snoc (ob : Nat) (gs : List GG) (g : GG) : owned ob (gs ++ [g]) = (ob :: gs.flatMap gBlocks) ++ gBlocks g := by simp [owned]

theorem out_snoc {r ob : Nat} {gs : List GG} {g : GG} {b : Nat} (h : b ∉ r :: owned ob (gs ++ [g])) : b ≠ r ∧ b ≠ ob ∧ b ∉ gs.flatMap gBlocks ∧ b ∉ gBlocks g := by
  rw [owned_snoc] at h
  simp only [List.mem_cons, List.mem_append, not_or] at h
  exact ⟨h.1, h.2.1.1, h.2.1.2, h.2.2⟩

/-- what is done stays done when the innermost group turns -/
theorem SAt.free {w w3 : World} {r base : Nat} {ex : List Nat} {A : Option Addr} {n c : Nat} {toks : List Tk} {at_ ob oc : Nat} {gs : List GG} {g g' : GG} (_h : SAt w r base ex A n c toks at_ ob oc (gs ++ [g]))
    (hsame : ∀ b, b < w.heap.size → b ≠ ob → b ∉ gBlocks g → w3.heap[b]? = w.heap[b]?) (hbl : ∀ b ∈ gBlocks g', b ∈ gBlocks g ∨ w.heap.size ≤ b) :
    ∀ b, b < w.heap.size → Done ex r ob (gs ++ [g]) b → Done ex r ob (gs ++ [g']) b ∧ w3.heap[b]? = w.heap[b]? := by
  intro b hl hF
  unfold Done at hF ⊢
  rw [owned_snoc] at hF ⊢
  simp only [List.mem_cons, List.mem_append, not_or] at hF ⊢
  refine ⟨⟨hF.1, hF.2.1, hF.2.2.1, fun hb => ?_⟩, hsame b hl hF.2.2.1.1 hF.2.2.2⟩
  rcases hbl b hb with hb | hb
  · exact hF.2.2.2 hb
  · omega

/-- the innermost group has turned -/
theorem SAt.turn {w w3 : World} {r base : Nat} {ex : List Nat} {A : Option Addr} {n c : Nat} {toks : List Tk} {at_ ob oc : Nat} {gs : List GG} {g g' : GG} (h : SAt w r base ex A n c toks at_ ob oc (gs ++ [g])) (hb : Below base w w3)
    (hsame : ∀ b, b < w.heap.size → b ≠ ob → b ∉ gBlocks g → w3.heap[b]? = w.heap[b]?) (hown : w3.ownsRow base 154 10 (.slice (some ⟨ob, 0, none⟩) (gs ++ [g]).length oc) (gs ++ [g]).length (gsCells (gs ++ [g'])))
    (hg' : GAt w3 (Done ex r ob (gs ++ [g'])) base g') (hbl : ∀ b ∈ gBlocks g', b ∈ gBlocks g ∨ w.heap.size ≤ b) (hnd : (gBlocks g').Nodup) (hfew : g'.rows.length + g'.parts.length ≤ at_) :
    SAt w3 r base ex A n c toks at_ ob oc (gs ++ [g']) := by
  have hlen : (gs ++ [g']).length = (gs ++ [g]).length := by simp
  have hnd0 := h.nodup
  rw [owned_snoc, ← List.cons_append, List.nodup_append] at hnd0
  refine ⟨by rw [hlen]; exact h.rd.under hb h.hr, by rw [hlen]; exact hown, ?_, ?_, h.hr, Nat.le_trans h.hbase hb.size, h.lv.below hb (Nat.lt_trans h.glv h.hr), h.glv, ?_, by rw [hlen]; exact h.fewer, fun b hb2 => Nat.lt_of_lt_of_le (h.exlt b hb2) hb.size, ?_⟩
  · intro x hx
    rcases List.mem_append.1 hx with hx | hx
    · refine (h.each x (List.mem_append.2 (.inl hx))).same hb.size (fun b hbx => ?_) (h.free hsame hbl)
      have hbo : b ∈ r :: ob :: gs.flatMap gBlocks := List.mem_cons.2 (.inr (List.mem_cons.2 (.inr (List.mem_flatMap.2 ⟨x, hx, hbx⟩))))
      refine hsame b ((h.each x (List.mem_append.2 (.inl hx))).lt b hbx).2 (fun e => ?_) (fun e => hnd0.2.2 b hbo b e rfl)
      have h2 := (List.nodup_cons.1 (List.nodup_cons.1 hnd0.1).2).1
      exact h2 (e ▸ List.mem_flatMap.2 ⟨x, hx, hbx⟩)
    · have : x = g' := by simpa using hx
      subst this
      exact hg'
  · rw [owned_snoc, ← List.cons_append, List.nodup_append]
    refine ⟨hnd0.1, hnd, fun a ha b hb' e => ?_⟩
    subst e
    rcases hbl a hb' with hb2 | hb2
    · exact hnd0.2.2 a ha a hb2 rfl
    · rcases List.mem_cons.1 ha with rfl | ha
      · have := h.hr; have := h.hbase; omega
      · have := (h.owned_lt a (by rw [owned_snoc]; exact List.mem_append.2 (.inl ha))).2
        omega
  · intro x hx
    rcases List.mem_append.1 hx with hx | hx
    · exact h.few x (List.mem_append.2 (.inl hx))
    · have : x = g' := by simpa using hx
      subst this
      exact hfew
  · intro b hb2 hin
    have h3 := h.exo b hb2
    rw [owned_snoc] at h3 hin
    rcases List.mem_append.1 hin with hin | hin
    · exact h3 (List.mem_append.2 (.inl hin))
    · rcases hbl b hin with h4 | h4
      · exact h3 (List.mem_append.2 (.inr h4))
      · have := h.exlt b hb2
        omega

/-- a new block of one's own -/
theorem SAt.exclude {w : World} {r base : Nat} {ex : List Nat} {A : Option Addr} {n c : Nat} {toks : List Tk} {at_ ob oc : Nat} {gs : List GG} (h : SAt w r base ex A n c toks at_ ob oc gs) (o : Obj) : SAt (w.alloc o) r base (w.heap.size :: ex) A n c toks at_ ob oc gs := by
  have hb : Below w.heap.size w (w.alloc o) := (Below.refl _ _).alloc (Nat.le_refl _) _
  refine ⟨h.rd.later hb, ownsRow_kept h.own hb, fun g hg => (h.each g hg).same hb.size (fun b hbl => hb.block b ((h.each g hg).lt b hbl).2) (fun b hl hF => ⟨⟨?_, hF.2⟩, hb.block b hl⟩), h.nodup, h.hr, Nat.le_trans h.hbase hb.size, h.lv.below hb h.lv.lt, h.glv, h.few, h.fewer, ?_, ?_⟩
  · intro hin
    rcases List.mem_cons.1 hin with e | hin
    · omega
    · exact hF.1 hin
  · intro b hin
    rcases List.mem_cons.1 hin with e | hin
    · subst e; simp
    · exact Nat.lt_of_lt_of_le (h.exlt b hin) hb.size
  · intro b hin
    rcases List.mem_cons.1 hin with e | hin
    · intro hin2
      have := (h.owned_lt b hin2).2
      omega
    · exact h.exo b hin
theorem SAt.forget {w : World} {r base e : Nat} {ex : List Nat} {A : Option Addr} {n c : Nat} {toks : List Tk} {at_ ob oc : Nat} {gs : List GG} (h : SAt w r base (e :: ex) A n c toks at_ ob oc gs) : SAt w r base ex A n c toks at_ ob oc gs :=
  ⟨h.rd, h.own, fun g hg => (h.each g hg).same (Nat.le_refl _) (fun _ _ => rfl) (fun _ _ hF => ⟨⟨fun hin => hF.1 (List.mem_cons.2 (.inr hin)), hF.2⟩, rfl⟩), h.nodup, h.hr, h.hbase, h.lv, h.glv, h.few, h.fewer, fun b hb => h.exlt b (List.mem_cons.2 (.inr hb)), fun b hb => h.exo b (List.mem_cons.2 (.inr hb))⟩
/-- a block of one's own has turned -/
theorem SAt.aside {w w' : World} {r base e : Nat} {ex : List Nat} {A : Option Addr} {n c : Nat} {toks : List Tk} {at_ ob oc : Nat} {gs : List GG} (h : SAt w r base ex A n c toks at_ ob oc gs) (hb : Only e w w') (he : e ∈ ex) (hbe : base ≤ e) : SAt w' r base ex A n c toks at_ ob oc gs := by
  have hbel : Below base w w' := ⟨hb.os, hb.tape, hb.output, hb.size, fun k hk => hb.block k (by have := h.hbase; omega) (fun e2 => by have := Option.some.inj e2; omega)⟩
  have hsame : ∀ b ∈ owned ob gs, w'.heap[b]? = w.heap[b]? := fun b hbl => hb.block b (h.owned_lt b hbl).2 (fun e2 => h.exo e he (by rw [← Option.some.inj e2]; exact hbl))
  refine ⟨h.rd.under hbel h.hr, ownsRow_same h.own (fun b hbl => ?_), fun g hg => (h.each g hg).same hb.size (fun b hbl => hsame b (List.mem_cons.2 (.inr (List.mem_flatMap.2 ⟨g, hg, hbl⟩)))) (fun b hl hF => ⟨hF, hb.block b hl (fun e2 => hF.1 (by rw [Option.some.inj e2]; exact he))⟩), h.nodup, h.hr, Nat.le_trans h.hbase hb.size, h.lv.below hbel (Nat.lt_trans h.glv h.hr), h.glv, h.few, h.fewer, fun b hb2 => Nat.lt_of_lt_of_le (h.exlt b hb2) hb.size, h.exo⟩
  have : ob = b := by simpa [Value.ownBlock] using hbl
  subst this
  exact hsame ob (List.mem_cons.2 (.inl rfl))
end Go.Proofs.YtodenbimeojgdaaGreatDoor
