/-
  What is read, and is right, is packed as it was; so two rows of bytes that are read as the same table are the same. No conditions.
-/
import Derived.Test.YtkgfjapflpjdbaaTcQ
namespace Go.Proofs.Ytkgfjapflpjdbaa
open Go.RowKit

theorem some_yes {l : List UInt8} {s s' : Rs} {m : Nat} {b : List UInt8} (e : someP l s m = (b, s')) (h : s'.short = false) (hle : s.at_ ≤ l.length) : s.short = false ∧ b.length = m ∧ s'.at_ ≤ l.length ∧ l.drop s.at_ = b ++ l.drop s'.at_ := by
  unfold someP at e
  split at e
  · injection e with _ e2
    subst e2
    cases h
  · injection e with e1 e2
    subst e1; subst e2
    refine ⟨h, by rw [List.length_take, List.length_drop]; omega, by show s.at_ + m ≤ _; omega, ?_⟩
    show l.drop s.at_ = (l.drop s.at_).take m ++ l.drop (s.at_ + m)
    rw [← List.drop_drop, List.take_append_drop]
theorem num_yes {l : List UInt8} {s s' : Rs} {m n : Nat} (e : numP l s m = (n, s')) (h : s'.short = false) (hle : s.at_ ≤ l.length) : ∃ b, n = numZ b ∧ s.short = false ∧ b.length = m ∧ s'.at_ ≤ l.length ∧ l.drop s.at_ = b ++ l.drop s'.at_ := by
  unfold numP at e
  injection e with e1 e2
  obtain ⟨h1, h2, h3, h4⟩ := some_yes (b := (someP l s m).1) (s' := s') (m := m) (by rw [← e2]) h hle
  exact ⟨_, e1.symm, h1, h2, h3, h4⟩
theorem ofNat_toNat8 (c : UInt8) : UInt8.ofNat c.toNat = c := by simp
theorem one_num {b : List UInt8} (h : b.length = 1) : [UInt8.ofNat (numZ b)] = b := by
  match b, h with
  | [c], _ =>
    show [UInt8.ofNat (0 * 256 + c.toNat)] = [c]
    rw [Nat.zero_mul, Nat.zero_add, ofNat_toNat8]
theorem two_num {b : List UInt8} (h : b.length = 2) : [hiB (numZ b), loB (numZ b)] = b := by
  match b, h with
  | [c, d], _ =>
    have e : numZ [c, d] = c.toNat * 256 + d.toNat := by show (0 * 256 + c.toNat) * 256 + d.toNat = _; omega
    have hd : d.toNat < 256 := d.toNat_lt
    have hc : c.toNat < 256 := c.toNat_lt
    have e1 : hiB (numZ [c, d]) = c := by
      unfold hiB
      rw [e, show (c.toNat * 256 + d.toNat) / 256 = c.toNat from by omega, ofNat_toNat8]
    have e2 : loB (numZ [c, d]) = d := by
      apply UInt8.toNat.inj
      unfold loB
      rw [e, UInt8.toNat_ofNat']
      omega
    rw [e1, e2]
theorem names_yes {l : List UInt8} {s : Rs} (hle : s.at_ ≤ l.length) : ∀ (m : Nat) (ns : List (List UInt8)) (s' : Rs), namesR l m s = (ns, s') → s'.short = false → s.short = false ∧ s'.at_ ≤ l.length ∧ l.drop s.at_ = namesP ns ++ l.drop s'.at_
  | 0, ns, s', e, h => by
    injection e with e1 e2
    subst e1; subst e2
    exact ⟨h, hle, rfl⟩
  | m + 1, ns, s', e, h => by
    obtain ⟨x, s1, e1⟩ : ∃ x s1, namesR l m s = (x, s1) := ⟨_, _, rfl⟩
    obtain ⟨n, s2, e2⟩ : ∃ n s2, numP l s1 1 = (n, s2) := ⟨_, _, rfl⟩
    obtain ⟨b, s3, e3⟩ : ∃ b s3, someP l s2 n = (b, s3) := ⟨_, _, rfl⟩
    have e0 : namesR l (m + 1) s = (x ++ [b], s3) := by
      show (let x := namesR l m s; let n := numP l x.2 1; let b := someP l n.2 n.1; (x.1 ++ [b.1], b.2)) = _
      simp only [e1, e2, e3]
    rw [e0] at e
    injection e with f1 f2
    subst f1; subst f2
    have hl1 : s1.at_ ≤ l.length := by have := names_le l hle m; rw [e1] at this; exact this
    have hl2 : s2.at_ ≤ l.length := by have := someP_le (m := 1) hl1; rw [show (someP l s1 1).2 = s2 from congrArg Prod.snd e2] at this; exact this
    obtain ⟨p1, p2, p3, p4⟩ := some_yes e3 h hl2
    obtain ⟨c, q0, q1, q2, q3, q4⟩ := num_yes e2 p1 hl1
    obtain ⟨r1, r2, r3⟩ := names_yes hle m x s1 e1 q1
    refine ⟨r1, p3, ?_⟩
    have hn : nameBytes b = c ++ b := by
      unfold nameBytes
      rw [p2, q0]
      show [UInt8.ofNat (numZ c)] ++ b = _
      rw [one_num q2]
    rw [r3, q4, p4]
    have : namesP (x ++ [b]) = namesP x ++ nameBytes b := by unfold namesP; rw [List.flatMap_append]; simp
    rw [this, hn]
    simp
theorem less_step (wd : Nat) (hw : 1 ≤ wd) (b r : List UInt8) (hb : b.length = wd) : lessP wd (b ++ r) = ((numZ b : Int) - 1) :: lessP wd r := by
  unfold lessP
  have hq : (b ++ r).length / wd = r.length / wd + 1 := by rw [List.length_append, hb, Nat.add_comm, Nat.add_div_right _ hw]
  rw [hq, List.range_succ_eq_map, List.map_cons, List.map_map]
  congr 1
  · show (numZ (chunkL (b ++ r) wd 0) : Int) - 1 = _
    have : chunkL (b ++ r) wd 0 = b := by unfold chunkL; rw [Nat.zero_mul, List.drop_zero, ← hb, List.take_left]
    rw [this]
  · apply List.map_congr_left
    intro k _
    show (numZ (chunkL (b ++ r) wd (k + 1)) : Int) - 1 = (numZ (chunkL r wd k) : Int) - 1
    have : chunkL (b ++ r) wd (k + 1) = chunkL r wd k := by
      unfold chunkL
      rw [Nat.succ_mul, Nat.add_comm (k * wd) wd, ← List.drop_drop, ← hb, List.drop_left]
    rw [this]
theorem tags_back : ∀ (g : List UInt8), tagsP (lessP 1 g) = g
  | [] => rfl
  | c :: r => by
    have := less_step 1 (Nat.le_refl _) [c] r rfl
    rw [show c :: r = [c] ++ r from rfl, this]
    unfold tagsP
    rw [List.map_cons]
    have e : byteOf ((numZ [c] : Int) - 1 + 1) = c := by
      unfold byteOf
      have : ((numZ [c] : Int) - 1 + 1).toNat = c.toNat := by show ((((0 * 256 + c.toNat : Nat) : Int)) - 1 + 1).toNat = _; omega
      rw [this, ofNat_toNat8]
    rw [e]
    have := tags_back r
    unfold tagsP at this
    rw [this]
    rfl
theorem next_back : ∀ (k : Nat) (g : List UInt8), g.length = k * 2 → nextP (lessP 2 g) = g
  | 0, g, h => by
    have : g = [] := List.length_eq_zero_iff.1 (by omega)
    subst this
    rfl
  | k + 1, [], h => by simp at h
  | k + 1, [_], h => by simp at h; omega
  | k + 1, c :: d :: r, h => by
    have := less_step 2 (by decide) [c, d] r rfl
    rw [show c :: d :: r = [c, d] ++ r from rfl, this]
    unfold nextP
    rw [List.flatMap_cons]
    have e : twoOf ((numZ [c, d] : Int) - 1 + 1) = [c, d] := by
      unfold twoOf
      have : ((numZ [c, d] : Int) - 1 + 1).toNat = numZ [c, d] := by omega
      rw [this, two_num rfl]
    rw [e]
    have := next_back k r (by simp at h; omega)
    unfold nextP at this
    rw [this]
theorem less_len (wd : Nat) (g : List UInt8) : (lessP wd g).length = g.length / wd := by unfold lessP; simp
theorem names_len {l : List UInt8} {s s' : Rs} {m : Nat} {ns : List (List UInt8)} (e : namesR l m s = (ns, s')) : ns.length = m := by have := namesR_len l s m; rw [e] at this; exact this
theorem readB_parts {l : List UInt8} (h : readB l = true) : (tableR l ⟨0, false⟩).2.at_ = l.length ∧ (tableR l ⟨0, false⟩).2.short = false ∧ tabRightB (tableR l ⟨0, false⟩).1 = true := by
  unfold readB wholeB at h
  simp only [Bool.and_eq_true, decide_eq_true_eq, Bool.not_eq_true'] at h
  exact ⟨h.1.1, h.1.2, h.2⟩
theorem pack_read (l : List UInt8) (h : readB l = true) : packP (readT l) = l ∧ tabRightB (readT l) = true ∧ (readT l).of.length = 256 := by
  obtain ⟨h1, h2, h3⟩ := readB_parts h
  have hT : readT l = (tableR l ⟨0, false⟩).1 := if_pos h
  have hf := right_front l h3
  obtain ⟨b, s1, a0⟩ : ∃ b s1, someP l ⟨0, false⟩ 3 = (b, s1) := ⟨_, _, rfl⟩
  rw [a0] at hf
  obtain rfl : b = [70, 84, 1] := hf
  obtain ⟨m, s2, a1⟩ : ∃ m s2, numP l s1 1 = (m, s2) := ⟨_, _, rfl⟩
  obtain ⟨q, s3, a2⟩ : ∃ m s', numP l s2 2 = (m, s') := ⟨_, _, rfl⟩
  obtain ⟨k, s4, a3⟩ : ∃ m s', numP l s3 1 = (m, s') := ⟨_, _, rfl⟩
  obtain ⟨ns, s5, a4⟩ : ∃ m s', namesR l k s4 = (m, s') := ⟨_, _, rfl⟩
  obtain ⟨o, s6, a5⟩ : ∃ m s', someP l s5 256 = (m, s') := ⟨_, _, rfl⟩
  obtain ⟨g, s7, a6⟩ : ∃ m s', someP l s6 (q * 1) = (m, s') := ⟨_, _, rfl⟩
  obtain ⟨x, s8, a7⟩ : ∃ u s', someP l s7 (q * (m + 1) * 2) = (u, s') := ⟨_, _, rfl⟩
  have e := tableR_yes l _ s1 s2 s3 s4 s5 s6 s7 s8 m q k _ ns o g x a0 a1 a2 a3 a4 a5 a6 rfl a7
  rw [hT]
  rw [e] at h1 h2 h3 ⊢
  have z1 : s1.at_ ≤ l.length := by have := someP_le (l := l) (s := ⟨0, false⟩) (m := 3) (Nat.zero_le _); rw [a0] at this; exact this
  have z2 : s2.at_ ≤ l.length := by have := someP_le (m := 1) z1; rw [show (someP l s1 1).2 = s2 from congrArg Prod.snd a1] at this; exact this
  have z3 : s3.at_ ≤ l.length := by have := someP_le (m := 2) z2; rw [show (someP l s2 2).2 = s3 from congrArg Prod.snd a2] at this; exact this
  have z4 : s4.at_ ≤ l.length := by have := someP_le (m := 1) z3; rw [show (someP l s3 1).2 = s4 from congrArg Prod.snd a3] at this; exact this
  have z5 : s5.at_ ≤ l.length := by have := names_le l z4 k; rw [a4] at this; exact this
  have z6 : s6.at_ ≤ l.length := by have := someP_le (m := 256) z5; rw [a5] at this; exact this
  have z7 : s7.at_ ≤ l.length := by have := someP_le (m := q * 1) z6; rw [a6] at this; exact this
  obtain ⟨p7, c7, _, d7⟩ := some_yes a7 h2 z7
  obtain ⟨p6, c6, _, d6⟩ := some_yes a6 p7 z6
  obtain ⟨p5, c5, _, d5⟩ := some_yes a5 p6 z5
  obtain ⟨p4, _, d4⟩ := names_yes z4 k ns s5 a4 p5
  obtain ⟨b3, v3, p3, c3, _, d3⟩ := num_yes a3 p4 z3
  obtain ⟨b2, v2, p2, c2, _, d2⟩ := num_yes a2 p3 z2
  obtain ⟨b1, v1, p1, c1, _, d1⟩ := num_yes a1 p2 z1
  obtain ⟨_, _, _, d0⟩ := some_yes a0 p1 (Nat.zero_le _)
  have hend : l.drop s8.at_ = [] := List.drop_eq_nil_of_le (by rw [h1]; exact Nat.le_refl _)
  have hof : ofP o = o := if_pos c5
  refine ⟨?_, h3, by show (ofP o).length = 256; rw [hof]; exact c5⟩
  have hl : l = [70, 84, 1] ++ (b1 ++ (b2 ++ (b3 ++ (namesP ns ++ (o ++ (g ++ (x ++ []))))))) := by
    have : l = l.drop (⟨0, false⟩ : Rs).at_ := rfl
    rw [this, d0, d1, d2, d3, d4, d5, d6, d7, hend]
  have t1 : [byteOf ((m : Int) + 1 - 1)] = b1 := by
    unfold byteOf
    rw [show ((m : Int) + 1 - 1).toNat = m from by omega, v1]
    exact one_num c1
  have t2 : twoOf ((lessP 1 g).length : Int) = b2 := by
    unfold twoOf
    rw [Int.toNat_natCast, less_len, c6, Nat.div_one, Nat.mul_one, v2]
    exact two_num c2
  have t3 : [UInt8.ofNat ns.length] = b3 := by
    rw [names_len a4, v3]
    exact one_num c3
  unfold packP headP
  show [70, 84, 1] ++ [byteOf ((m : Int) + 1 - 1)] ++ twoOf ((lessP 1 g).length : Int) ++ [UInt8.ofNat ns.length] ++ namesP ns ++ ofP o ++ tagsP (lessP 1 g) ++ nextP (lessP 2 x) = l
  rw [t1, t2, t3, hof, tags_back, next_back (q * (m + 1)) x c7]
  rw [hl]
  simp only [List.append_assoc, List.append_nil]
theorem read_inj {l1 l2 : List UInt8} (h1 : readB l1 = true) (h2 : readB l2 = true) (h : readT l1 = readT l2) : l1 = l2 := by
  rw [← (pack_read l1 h1).1, ← (pack_read l2 h2).1, h]
end Go.Proofs.Ytkgfjapflpjdbaa
