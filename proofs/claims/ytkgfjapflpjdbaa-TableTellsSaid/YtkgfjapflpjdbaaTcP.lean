/-
  What is packed is read back as it was. No conditions.
-/
import Derived.Test.YtkgfjapflpjdbaaTbZ
namespace Go.Proofs.Ytkgfjapflpjdbaa
open Go.RowKit

theorem some_at {l : List UInt8} {s : Rs} {b r : List UInt8} (h : l.drop s.at_ = b ++ r) : someP l s b.length = (b, { s with at_ := s.at_ + b.length }) ∧ l.drop (s.at_ + b.length) = r := by
  have hl := congrArg List.length h
  rw [List.length_drop, List.length_append] at hl
  refine ⟨?_, by rw [← List.drop_drop, h, List.drop_left]⟩
  unfold someP
  rw [if_neg (by omega), h, List.take_left]
theorem num_at {l : List UInt8} {s : Rs} {b r : List UInt8} (m : Nat) (hm : b.length = m) (h : l.drop s.at_ = b ++ r) : numP l s m = (numZ b, { s with at_ := s.at_ + m }) ∧ l.drop (s.at_ + m) = r := by
  subst hm
  obtain ⟨h1, h2⟩ := some_at h
  unfold numP
  rw [h1]
  exact ⟨rfl, h2⟩
theorem numZ_one (n : Nat) (h : n < 256) : numZ [UInt8.ofNat n] = n := by
  show 0 * 256 + (UInt8.ofNat n).toNat = n
  rw [UInt8.toNat_ofNat']
  omega
theorem numZ_two (n : Nat) (h : n < 65536) : numZ [hiB n, loB n] = n := by
  show (0 * 256 + (hiB n).toNat) * 256 + (loB n).toNat = n
  unfold hiB loB
  rw [UInt8.toNat_ofNat', UInt8.toNat_ofNat']
  omega
theorem names_at {l : List UInt8} {s : Rs} {ns : List (List UInt8)} {r : List UInt8} (hn : ∀ x ∈ ns, x.length < 256) (h : l.drop s.at_ = namesP ns ++ r) : ∀ m, m ≤ ns.length →
    namesR l m s = (ns.take m, { s with at_ := s.at_ + (namesP (ns.take m)).length }) ∧ l.drop (s.at_ + (namesP (ns.take m)).length) = namesP (ns.drop m) ++ r
  | 0, _ => ⟨rfl, by simpa [namesP] using h⟩
  | m + 1, hm => by
    obtain ⟨h1, h2⟩ := names_at hn h m (by omega)
    have hlt : m < ns.length := by omega
    have hx := hn _ (List.getElem_mem hlt)
    rw [List.drop_eq_getElem_cons hlt] at h2
    have h3 : l.drop (s.at_ + (namesP (ns.take m)).length) = [UInt8.ofNat ns[m].length] ++ (ns[m] ++ (namesP (ns.drop (m + 1)) ++ r)) := by
      have e : namesP (ns[m] :: ns.drop (m + 1)) = nameBytes ns[m] ++ namesP (ns.drop (m + 1)) := List.flatMap_cons ..
      rw [h2, e, List.append_assoc]
      rfl
    obtain ⟨g1, g2⟩ := num_at (s := { s with at_ := s.at_ + (namesP (ns.take m)).length }) 1 rfl h3
    rw [numZ_one _ hx] at g1
    obtain ⟨k1, k2⟩ := some_at (s := { s with at_ := s.at_ + (namesP (ns.take m)).length + 1 }) g2
    have e : (namesP (ns.take (m + 1))).length = (namesP (ns.take m)).length + 1 + ns[m].length := by
      rw [namesP_snoc ns m hlt]
      simp
      omega
    constructor
    · show (let x := namesR l m s; let n := numP l x.2 1; let b := someP l n.2 n.1; (x.1 ++ [b.1], b.2)) = _
      simp only [h1, g1, k1, e]
      rw [List.take_succ_eq_append_getElem hlt]
      simp only [Prod.mk.injEq, Rs.mk.injEq, and_true, true_and]
      omega
    · rw [e, ← Nat.add_assoc, ← Nat.add_assoc]
      exact k2
section
variable {f : Int → List UInt8} {wd : Nat}
theorem flat_len : ∀ (L : List Int), (∀ z ∈ L, (f z).length = wd) → (L.flatMap f).length = L.length * wd
  | [], _ => by simp
  | z :: r, h => by
    rw [List.flatMap_cons, List.length_append, h z (List.mem_cons_self ..), flat_len r (fun z hz => h z (List.mem_cons_of_mem _ hz)), List.length_cons, Nat.succ_mul]
    omega
theorem flat_drop : ∀ (L : List Int) (k : Nat), (∀ z ∈ L, (f z).length = wd) → (L.flatMap f).drop (k * wd) = (L.drop k).flatMap f
  | L, 0, _ => by simp
  | [], k + 1, _ => by simp
  | z :: r, k + 1, h => by
    rw [List.flatMap_cons, Nat.succ_mul, Nat.add_comm (k * wd) wd, ← List.drop_drop, ← h z (List.mem_cons_self ..), List.drop_left, h z (List.mem_cons_self ..), flat_drop r k (fun z hz => h z (List.mem_cons_of_mem _ hz))]
    rfl
theorem less_flat (L : List Int) (hw : 1 ≤ wd) (h : ∀ z ∈ L, (f z).length = wd ∧ (numZ (f z) : Int) - 1 = z) : lessP wd (L.flatMap f) = L := by
  have hl : ∀ z ∈ L, (f z).length = wd := fun z hz => (h z hz).1
  have hq : (L.flatMap f).length / wd = L.length := by rw [flat_len L hl]; exact Nat.mul_div_cancel _ hw
  unfold lessP
  rw [hq]
  apply List.ext_getElem
  · simp
  · intro k h1 h2
    rw [List.getElem_map, List.getElem_range]
    unfold lessZ chunkL
    rw [flat_drop L k hl, List.drop_eq_getElem_cons h2, List.flatMap_cons, ← hl _ (List.getElem_mem h2), List.take_left]
    exact (h _ (List.getElem_mem h2)).2
end
theorem tagsP_flat (l : List Int) : tagsP l = l.flatMap fun z => [byteOf (z + 1)] := by
  unfold tagsP
  induction l with
  | nil => rfl
  | cons z r ih => rw [List.map_cons, ih, List.flatMap_cons]; rfl
theorem names_short2 {ns : List (List UInt8)} (h : namesB ns = true) : ns.length ≤ 200 ∧ ∀ x ∈ ns, x.length < 256 := by
  unfold namesB at h
  simp only [Bool.and_eq_true, decide_eq_true_eq, List.all_eq_true] at h
  refine ⟨h.2.1, fun x hx => ?_⟩
  have := h.2.2.1 x hx
  unfold nameB at this
  simp only [Bool.and_eq_true, decide_eq_true_eq] at this
  omega
theorem read_pack (t : Tab) (h : RightT t) (ho : t.of.length = 256) : tableR (packP t) ⟨0, false⟩ = (t, ⟨(packP t).length, false⟩) := by
  obtain ⟨hn1, hn2⟩ := names_short2 h.names
  have hlo := h.lo
  have hhi := h.hi
  have hthi := h.thi
  obtain ⟨d, hd⟩ : ∃ d : Nat, t.dmany = d := ⟨t.dmany.toNat, by omega⟩
  have hbd : byteOf (t.dmany - 1) = UInt8.ofNat (d - 1) := by unfold byteOf; congr 1; omega
  have htw : twoOf (t.tags.length : Int) = [hiB t.tags.length, loB t.tags.length] := by unfold twoOf; rw [Int.toNat_natCast]
  have hlen : t.next.length = t.tags.length * d := by have := h.len; rw [hd, ← Int.natCast_mul] at this; omega
  have e0 : (packP t).drop (⟨0, false⟩ : Rs).at_ = [70, 84, 1] ++ ([UInt8.ofNat (d - 1)] ++ ([hiB t.tags.length, loB t.tags.length] ++ ([UInt8.ofNat t.names.length] ++ (namesP t.names ++ (t.of ++ (tagsP t.tags ++ (nextP t.next ++ []))))))) := by
    show packP t = _
    unfold packP headP
    rw [hbd, htw]
    simp
  obtain ⟨a0, b0⟩ := some_at e0
  obtain ⟨a1, b1⟩ := num_at (s := ⟨0 + 3, false⟩) 1 rfl b0
  obtain ⟨a2, b2⟩ := num_at (s := ⟨0 + 3 + 1, false⟩) 2 rfl b1
  obtain ⟨a3, b3⟩ := num_at (s := ⟨0 + 3 + 1 + 2, false⟩) 1 rfl b2
  obtain ⟨a4, b4⟩ := names_at (s := ⟨0 + 3 + 1 + 2 + 1, false⟩) hn2 b3 t.names.length (Nat.le_refl _)
  rw [List.take_length, List.drop_length] at b4
  rw [List.take_length] at a4
  have b4' : (packP t).drop (0 + 3 + 1 + 2 + 1 + (namesP t.names).length) = t.of ++ (tagsP t.tags ++ (nextP t.next ++ [])) := b4
  obtain ⟨a5, b5⟩ := some_at (s := ⟨0 + 3 + 1 + 2 + 1 + (namesP t.names).length, false⟩) b4'
  obtain ⟨a6, b6⟩ := some_at (s := ⟨0 + 3 + 1 + 2 + 1 + (namesP t.names).length + t.of.length, false⟩) b5
  obtain ⟨a7, b7⟩ := some_at (s := ⟨0 + 3 + 1 + 2 + 1 + (namesP t.names).length + t.of.length + (tagsP t.tags).length, false⟩) b6
  rw [numZ_one _ (by omega)] at a1 a3
  rw [numZ_two _ (by omega)] at a2
  rw [ho] at a5
  have ht1 : (tagsP t.tags).length = t.tags.length * 1 := by unfold tagsP; simp
  have hn3 : (nextP t.next).length = t.tags.length * (d - 1 + 1) * 2 := by
    unfold nextP
    rw [flat_len (wd := 2) _ (fun z _ => rfl), hlen, show d - 1 + 1 = d from by omega]
  rw [ht1] at a6
  rw [hn3] at a7
  have := tableR_yes (packP t) ⟨0, false⟩ _ _ _ _ _ _ _ _ (d - 1) t.tags.length t.names.length (t.tags.length * (d - 1 + 1)) t.names t.of (tagsP t.tags) (nextP t.next) a0 a1 a2 a3 a4 a5 (by rw [← ho]; exact a6) rfl (by rw [← ht1]; exact a7)
  rw [this]
  have l1 : lessP 1 (tagsP t.tags) = t.tags := by
    rw [tagsP_flat]
    refine less_flat _ (by decide) fun z hz => ⟨rfl, ?_⟩
    have := h.tags z hz
    unfold byteOf
    rw [numZ_one _ (by omega)]
    omega
  have l2 : lessP 2 (nextP t.next) = t.next := by
    unfold nextP
    refine less_flat _ (by decide) fun z hz => ⟨rfl, ?_⟩
    have := h.next z hz
    unfold twoOf
    rw [numZ_two _ (by omega)]
    omega
  rw [l1, l2]
  have hsame := h.same
  have hof : ofP t.of = t.of := if_pos ho
  have hend : (packP t).length = 0 + 3 + 1 + 2 + 1 + (namesP t.names).length + t.of.length + t.tags.length * 1 + t.tags.length * (d - 1 + 1) * 2 := by
    have := congrArg List.length e0
    simp only [List.length_drop, List.length_append, List.length_cons, List.length_nil] at this
    rw [ht1, hn3] at this
    omega
  refine Prod.ext ?_ ?_
  · cases t
    simp only at *
    simp only [Tab.mk.injEq, hof, and_true, true_and]
    omega
  · show (_ : Rs) = _
    rw [hend]
    try rw [ht1]
    try rw [ho]
theorem readB_pack (t : Tab) (h : tabRightB t = true) (ho : t.of.length = 256) : readB (packP t) = true ∧ readT (packP t) = t := by
  have e := read_pack t ((rightT_iff t).1 h) ho
  have hb : readB (packP t) = true := by unfold readB wholeB; rw [e, h]; simp
  exact ⟨hb, by unfold readT; rw [if_pos hb, e]⟩
end Go.Proofs.Ytkgfjapflpjdbaa
