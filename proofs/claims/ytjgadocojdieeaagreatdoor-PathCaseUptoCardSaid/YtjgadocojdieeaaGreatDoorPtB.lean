/-
  A reader of paths in memory, and its smallest methods: limit, take. Conditions: the reader lies in memory.
-/
import Derived.Test.YtjgadocojdieeaaGreatDoorPtA
import Derived.Test.YtjgadocojdieeaaGreatDoorGd
import Derived.BigQuiet
namespace Go.Proofs.YtjgadocojdieeaaGreatDoor
open Go.RowKit Go.Shelf

/-- the library's error of a numeral that is none: some value -/
def ErrAt (w : World) : Prop := ∃ ev, w.cell? ⟨4, 0, none⟩ = some ev ∧ (ev = .nilIface ∨ ∃ te pe, ev = .iface te pe)
theorem ErrAt.below {B : Nat} {w w' : World} (h : ErrAt w) (hb : Below B w w') (hB : 4 < B) : ErrAt w' := by
  obtain ⟨ev, h1, h2⟩ := h
  exact ⟨ev, (hb.cell (p := ⟨4, 0, none⟩) hB).trans h1, h2⟩
def rdCells (s : List UInt8) (p : Nat) (st : Rs) (v : Value) : Array Value := #[.string (bs s), .int .i64 (p : Int), .bool st.null, v, .string (bs st.loc), .string (bs st.dom), .bool st.lit, .bool st.long]
/-- a reader in memory: block r -/
structure RdIn (w : World) (r : Nat) (s : List UInt8) (p : Nat) (v : Value) (st : Rs) : Prop where
  cells : Blk w r 49 (rdCells s p st v)
  own : w.ownsRow (r + 1) 9 1 v st.route.length (st.route.map textV)
  place : p ≤ s.length
  rest : s.drop p = st.rest
  len : s.length ≤ 9223372036854775807
  err : ErrAt w
  low : 4 < r
def RdAt (w : World) (r : Nat) (s : List UInt8) (st : Rs) : Prop := ∃ p v, RdIn w r s p v st
/-- what lies ahead of the reader, and what is no reader and no row of texts, stays -/
structure Kp (r : Nat) (w w' : World) : Prop where
  low : Below r w w'
  keep : ∀ k t cs, Blk w k t cs → t ≠ 49 → t ≠ 9 → Blk w' k t cs
theorem Kp.refl (r : Nat) (w : World) : Kp r w w := ⟨Below.refl _ _, fun _ _ _ h _ _ => h⟩
theorem Kp.trans {r : Nat} {a b c : World} (h : Kp r a b) (k : Kp r b c) : Kp r a c := ⟨h.low.trans k.low, fun g t cs hb h1 h2 => k.keep g t cs (h.keep g t cs hb h1 h2) h1 h2⟩
theorem Kp.drewN {r : Nat} {a b : World} (h : Kp r a b) (n : Nat) : Kp r a (b.drewN n) := ⟨⟨h.low.os, h.low.tape, h.low.output, h.low.size, h.low.block⟩, h.keep⟩
theorem Kp.set_ {r : Nat} {a w : World} (h : Kp r a w) {cs : Array Value} (hb : Blk w r 49 cs) (i : Nat) (u : Value) : Kp r a (w.setCell ⟨r, i, none⟩ u) :=
  h.trans ⟨(Below.refl r w).setCell (p := ⟨r, i, none⟩) (Nat.le_refl _) u, fun k t cs' hk h1 _ => by
    refine hk.other (p := ⟨r, i, none⟩) ?_ u
    rintro rfl
    unfold Blk at hk hb
    rw [hb] at hk
    injection hk with hk
    injection hk with _ hk
    exact h1 hk.symm⟩
theorem Kp.of_low {r : Nat} {a b c : World} (h : Kp r a b) (hl : Below b.heap.size b c) (hr : r ≤ b.heap.size) : Kp r a c := h.trans ⟨hl.mono hr, fun _ _ _ hb _ _ => hb.below hl hb.lt⟩
theorem RdIn.lt {w : World} {r : Nat} {s : List UInt8} {p : Nat} {v : Value} {st : Rs} (h : RdIn w r s p v st) : r < w.heap.size := h.cells.lt
theorem RdIn.drewN {w : World} {r : Nat} {s : List UInt8} {p : Nat} {v : Value} {st : Rs} (h : RdIn w r s p v st) (n : Nat) : RdIn (w.drewN n) r s p v st := ⟨h.cells, h.own.kept (row := none) ⟨rfl, rfl, rfl, Nat.le_refl _, fun _ _ _ => rfl⟩ (by cases v.ownBlock <;> simp), h.place, h.rest, h.len, h.err, h.low⟩
theorem RdIn.later {w w' : World} {r : Nat} {s : List UInt8} {p : Nat} {v : Value} {st : Rs} (h : RdIn w r s p v st) (hb : Below w.heap.size w w') : RdIn w' r s p v st := ⟨h.cells.below hb h.lt, ownsRow_kept h.own hb, h.place, h.rest, h.len, h.err.below hb (Nat.lt_trans h.low h.lt), h.low⟩
/-- a cell of the reader is written -/
theorem RdIn.put {w : World} {r : Nat} {s : List UInt8} {p q : Nat} {v : Value} {st st' : Rs} (h : RdIn w r s p v st) (i : Nat) (u : Value) (hc : (rdCells s p st v).setIfInBounds i u = rdCells s q st' v) (hr : st'.route = st.route) (hq : q ≤ s.length) (hd : s.drop q = st'.rest) : RdIn (w.setCell ⟨r, i, none⟩ u) r s q v st' := by
  refine ⟨?_, ?_, hq, hd, h.len, ?_, h.low⟩
  · rw [← hc]; exact h.cells.set_ i u
  · rw [hr]; exact own_set h.own h.cells (by decide) i u
  · have hb : Below r w (w.setCell ⟨r, i, none⟩ u) := (Below.refl r w).setCell (p := ⟨r, i, none⟩) (Nat.le_refl _) u
    exact h.err.below hb h.low
/-- what a method that reads a part leaves -/
def ReadOut (w : World) (r : Nat) (s : List UInt8) (g : Rd) (st : Rs) (e : Ending) (w' : World) : Prop := e = .returned (.bool (g st).1) ∧ RdAt w' r s (g st).2 ∧ Kp r w w'
theorem str_at (s : List UInt8) (i : Nat) (h : i < s.length) (W : World) : (Instr.index 9 (.string (bs s)) (.int .i64 (i : Int))).run Tryz.prog W = .ok (.int .u8 (s[i].toNat : Int)) W := by
  rw [run_index_string W 9 (bs s) .i64 (i : Int) Tryz.underlying9]
  rw [dif_pos ⟨by omega, by rw [bs_size]; omega⟩]
  rfl
def LimOut (w : World) (r : Nat) (s : List UInt8) (b : Bool) (st : Rs) (e : Ending) (w' : World) : Prop := e = .returned (.tuple #[]) ∧ RdAt w' r s (limitR b st) ∧ Kp r w w'
theorem limit_any {w : World} {r : Nat} {s : List UInt8} {st : Rs} (h : RdAt w r s st) (m n : Int) : Calls Tryz.prog 70 #[.pointer (some ⟨r, 0, none⟩), .int .i64 m, .int .i64 n] w (LimOut w r s (decide (n < m)) st) := by
  obtain ⟨p, v, h⟩ := h
  have c7 := h.cells.cell 7
  have f7 := h.cells.frozen 7
  simp only [rdCells] at c7
  simp at c7
  have HK := Lib.hid (fun u => (Kp.refl r w).set_ h.cells 7 u)
  have HR := Lib.hid (fun (b : Bool) (hb : (st.long || decide (n < m)) = b) => h.put (q := p) (st' := limitR (decide (n < m)) st) 7 (.bool b) (by simp only [rdCells, limitR, hb]; rfl) rfl h.place h.rest)
  have HP : Hid (∀ (b : Bool) w', (st.long || decide (n < m)) = b → w' = w.setCell ⟨r, 7, none⟩ (.bool b) → LimOut w r s (decide (n < m)) st (.returned (.tuple #[])) w') := fun b w' hb hw => by subst hw; exact ⟨rfl, ⟨p, v, HR.out b hb⟩, HK.out _⟩
  clear h HR HK
  generalize LimOut w r s (decide (n < m)) st = Q at *
  cases hl : st.long with
  | true =>
    rw [hl] at c7 HP
    go_enter Tryz.func70, Tryz.ntmps70
    go_wp2
    go_end0
    exact HP.out true _ rfl rfl
  | false =>
    rw [hl] at c7 HP
    by_cases hlt : n < m
    · have hgt : ¬ m ≤ n := by omega
      go_enter Tryz.func70, Tryz.ntmps70
      go_wp2
      go_end0
      exact HP.out true _ (by simp [hlt]) rfl
    · have hgt : m ≤ n := by omega
      go_enter Tryz.func70, Tryz.ntmps70
      go_wp2
      go_end0
      exact HP.out false _ (by simp; omega) rfl
theorem drewN_add (w : World) (a b : Nat) : (w.drewN a).drewN b = w.drewN (a + b) := by simp [World.drewN, Nat.add_assoc]
theorem take_step (s what : List UInt8) (p k : Nat) (rest : List UInt8) (hd : s.drop p = rest) (hp : p + k < s.length) (hk : k < what.length) (h : low (rest.take k) = what.take k) :
    (sml s[p + k] = what[k] → low (rest.take (k + 1)) = what.take (k + 1)) ∧ (¬ sml s[p + k] = what[k] → ∀ st : Rs, st.rest = rest → (takeR what st).1 = false) := by
  have hr : rest[k]? = some s[p + k] := by rw [← hd, List.getElem?_drop, List.getElem?_eq_getElem hp]
  obtain ⟨hkr, hre⟩ := List.getElem?_eq_some_iff.1 hr
  refine ⟨fun e => ?_, fun e st hst => ?_⟩
  · rw [List.take_add_one, List.take_add_one, low_app, h, hr, List.getElem?_eq_getElem hk]
    simp [low, e]
  · cases ht : (takeR what st).1 with
    | false => rfl
    | true =>
      exfalso
      obtain ⟨h1, _, h3⟩ := takeR_yes _ _ ht
      rw [hst] at h1 h3
      have h4 : (low (rest.take what.length))[k]? = what[k]? := by rw [h1]
      unfold low at h4
      rw [List.getElem?_map, List.getElem?_take, if_pos hk, hr, List.getElem?_eq_getElem hk] at h4
      exact e (Option.some.inj h4)
set_option maxRecDepth 100000 in
set_option maxHeartbeats 2000000 in
theorem take_any {w : World} {r : Nat} {s : List UInt8} {st : Rs} (h : RdAt w r s st) (what : List UInt8) (hw : what.length ≤ 1000) : Calls Tryz.prog 62 #[.pointer (some ⟨r, 0, none⟩), .string (bs what)] w (ReadOut w r s (takeR what) st) := by
  obtain ⟨p, v, h⟩ := h
  have hn : s.length - p = st.rest.length := by rw [← h.rest, List.length_drop]
  have hp := h.place
  have hl := h.len
  have HNO : Hid (∀ q w', (takeR what st).1 = false → w' = w.drewN q → ReadOut w r s (takeR what) st (.returned (.bool false)) w') := fun q w' ht hw => by
    subst hw
    exact ⟨by rw [ht], ⟨p, v, by rw [takeR_no _ _ ht]; exact h.drewN q⟩, (Kp.refl r w).drewN q⟩
  have HYES : Hid (∀ q w', (takeR what st).1 = true → w' = (w.drewN q).setCell ⟨r, 1, none⟩ (.int .i64 ((p + what.length : Nat) : Int)) → ReadOut w r s (takeR what) st (.returned (.bool true)) w') := fun q w' ht hw => by
    subst hw
    obtain ⟨k1, k2, k3⟩ := takeR_yes _ _ ht
    refine ⟨by rw [ht], ⟨p + what.length, v, ?_⟩, ((Kp.refl r w).drewN q).set_ (h.drewN q).cells 1 _⟩
    rw [k2]
    exact (h.drewN q).put 1 _ rfl rfl (by omega) (by simp only; rw [← h.rest, List.drop_drop])
  generalize ReadOut w r s (takeR what) st = Q at *
  have HC : Hid (∀ q i u, (rdCells s p st v)[i]? = some u → (w.drewN q).cell? ⟨r, i, none⟩ = some u ∧ (w.drewN q).frozen? ⟨r, i, none⟩ = false) := fun q i u hu => ⟨((h.drewN q).cells.cell i).trans hu, (h.drewN q).cells.frozen i⟩
  have HD : Hid (s.drop p = st.rest) := h.rest
  have hsz : (bs s).size = s.length := rfl
  have hwz : (bs what).size = what.length := rfl
  clear h
  have HCS : Hid (∀ q, (w.drewN q).cell? ⟨r, 0, none⟩ = some (.string (bs s)) ∧ (w.drewN q).cell? ⟨r, 1, none⟩ = some (.int .i64 (p : Int)) ∧ (w.drewN q).frozen? ⟨r, 1, none⟩ = false) := fun q => ⟨(HC.out q 0 _ rfl).1, (HC.out q 1 _ rfl).1, (HC.out q 1 (.int .i64 (p : Int)) rfl).2⟩
  clear HC
  obtain ⟨c0, c1, f1⟩ := HCS.out 0
  rw [show w.drewN 0 = w from rfl] at c0 c1 f1
  by_cases hlt : s.length - p < what.length
  · have HT := Lib.hid (show (takeR what st).1 = false from by
      cases ht : (takeR what st).1 with
      | false => rfl
      | true => have := (takeR_yes _ _ ht).2.2; omega)
    have hlt2 : (s.length : Int) - (p : Int) < (what.length : Int) := by omega
    clear hlt hn
    go_enter Tryz.func62, Tryz.ntmps62
    go_wp2
    go_quiet (fail)
    go_wp2
    exact HNO.out _ _ HT.out rfl
  · have hle : what.length ≤ st.rest.length := by omega
    have hlt2 : ¬ (s.length : Int) - (p : Int) < (what.length : Int) := by omega
    have hlt3 : (what.length : Int) ≤ (s.length : Int) - (p : Int) := by omega
    have HLE := Lib.hid hle
    have HN := Lib.hid hn
    clear hlt hn hle
    go_enter Tryz.func62, Tryz.ntmps62
    go_wp2
    go_quiet (fail)
    go_wp2
    clear c0 c1 f1
    go_loopw [21] (fun i wr => ∃ k q : Nat, k ≤ what.length ∧ i = .int .i64 k ∧ Hid (low (st.rest.take k) = what.take k) ∧ Hid (wr = w.drewN q)) (fun i _ => what.length - (intOf i).toNat)
    case atStart => exact ⟨0, nq, Nat.zero_le _, rfl, rfl, rfl⟩
    case round =>
      obtain ⟨k, q, hk, rfl, HL, HW⟩ := hrel
      obtain ⟨c0, c1, f1⟩ := HCS.out q
      rw [← HW.out] at c0 c1 f1
      have hk0 : (0 : Int) ≤ (k : Int) := by omega
      by_cases hlt : k < what.length
      · have hkl : (k : Int) < (what.length : Int) := by omega
        have hps : (p : Int) + (k : Int) < (s.length : Int) := by omega
        have hp0 : (0 : Int) ≤ (p : Int) + (k : Int) := by omega
        have hpm : (p : Int) + (k : Int) ≤ 9223372036854775807 := by omega
        have hpk : p + k < s.length := by omega
        have hs1 : ∀ W, (Instr.index 9 (.string (bs s)) (.int .i64 ((p : Int) + (k : Int)))).run Tryz.prog W = .ok (.int .u8 (s[p + k].toNat : Int)) W := fun W => str_at s (p + k) hpk W
        have hs2 : ∀ W, (Instr.index 9 (.string (bs what)) (.int .i64 (k : Int))).run Tryz.prog W = .ok (.int .u8 (what[k].toNat : Int)) W := fun W => str_at what k hlt W
        have HST := Lib.hid (take_step s what p k st.rest HD.out hpk hlt HL.out)
        generalize s[p + k] = c at *
        generalize what[k] = d at *
        have HSM := Lib.hid (fun W => small_any c W)
        by_cases hcd : sml c = d
        · have hcz : ((sml c).toNat : Int) = (d.toNat : Int) := by rw [hcd]
          have HNX := Lib.hid (HST.out.1 hcd)
          clear HST hcd hpk
          go_wp2
          go_quiet ((go_at_call 93; refine (HSM.out _).mono ?_; rintro e w' ⟨rfl, rfl⟩; exact ⟨rfl, _, rfl⟩))
          go_wp2
          go_roundw
          case rel => exact ⟨k + 1, _, by omega, by go_num, HNX.out, (by show _ = _; rw [HW.out]; exact drewN_add w q nq)⟩
          case measure => simp [intOf]; omega
        · have hcz : ¬ ((sml c).toNat : Int) = (d.toNat : Int) := fun e => hcd (UInt8.toNat_inj.1 (by omega))
          have HNX := Lib.hid (HST.out.2 hcd st rfl)
          clear HST hcd hpk
          go_wp2
          go_quiet ((go_at_call 93; refine (HSM.out _).mono ?_; rintro e w' ⟨rfl, rfl⟩; exact ⟨rfl, _, rfl⟩))
          go_wp2
          exact HNO.out (q + nq) _ HNX.out (by rw [HW.out]; exact drewN_add w q nq)
      · have hkl : ¬ (k : Int) < (what.length : Int) := by omega
        have hke : k = what.length := by omega
        have HT := Lib.hid (show (takeR what st).1 = true from by
          have h1 := HL.out
          rw [hke, List.take_length] at h1
          unfold takeR
          rw [if_pos h1])
        clear HL hke
        go_wp2
        exact HYES.out q _ HT.out (by rw [HW.out, Int.natCast_add])
end Go.Proofs.YtjgadocojdieeaaGreatDoor
