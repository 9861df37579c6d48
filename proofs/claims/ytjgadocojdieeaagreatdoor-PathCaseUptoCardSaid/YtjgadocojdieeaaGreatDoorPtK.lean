/-
  path.inSmall: a text in small letters. Conditions: the text is of at most 2^62 bytes.
-/
import Derived.Test.YtjgadocojdieeaaGreatDoorPtJ
import Derived.Test.YtjgadocojdieeaaGreatDoorGc
namespace Go.Proofs.YtjgadocojdieeaaGreatDoor
open Go.RowKit Go.Shelf

/-- a row of bytes that a text was turned into, as it is written over -/
def BuW (w : World) (N : Nat) (l : List UInt8) : Prop := ∃ cur, w.heap[N]? = some (.cells cur 5 (cur.size, cur.size + 1)) ∧ l.length ≤ cur.size ∧ ∀ j, (h : j < l.length) → cur[j]? = some (byteV l[j])
theorem BuW.new (w : World) (l : List UInt8) : BuW (Lib.bytesWorld w 5 (bs l)) w.heap.size l := by
  refine ⟨_, Lib.bytesWorld_at_new w 5 (bs l), ?_, fun j hj => ?_⟩
  · unfold Lib.bytesCells
    simp [bs]
  · have h := Lib.bytesWorld_cell w 5 (bs l) j hj
    rw [World.cell?, Lib.bytesWorld_at_new] at h
    simp only at h
    have h2 : (Lib.bytesCells w 5 (bs l))[j]? = some (.int .u8 ((bs l).data.toList.getD j 0).toNat) := h
    rw [h2, bs_list, List.getD_eq_getElem?_getD, List.getElem?_eq_getElem hj]
    rfl
theorem BuW.cell {w : World} {N : Nat} {l : List UInt8} (h : BuW w N l) {j : Nat} (hj : j < l.length) : w.cell? ⟨N, j, none⟩ = some (.int .u8 (l[j].toNat : Int)) ∧ w.frozen? ⟨N, j, none⟩ = false := by
  obtain ⟨cur, h1, h2, h3⟩ := h
  constructor
  · unfold World.cell?
    rw [h1]
    exact h3 j hj
  · simp [World.frozen?, h1]
    omega
theorem BuW.put {w : World} {N : Nat} {l : List UInt8} (h : BuW w N l) {j : Nat} (hj : j < l.length) (c : UInt8) : BuW (w.setCell ⟨N, j, none⟩ (.int .u8 (c.toNat : Int))) N (l.set j c) := by
  obtain ⟨cur, h1, h2, h3⟩ := h
  refine ⟨cur.setIfInBounds j (.int .u8 (c.toNat : Int)), ?_, by simpa using h2, fun i hi => ?_⟩
  · rw [setCell_eq_setRow w N j cur 5 (cur.size, cur.size + 1) _ h1]
    have := setRow_heap w N cur (cur.setIfInBounds j (.int .u8 (c.toNat : Int))) 5 (cur.size, cur.size + 1) h1
    simpa using this
  · rw [List.length_set] at hi
    rw [Array.getElem?_setIfInBounds]
    by_cases hij : j = i
    · subst hij
      simp [byteV]
      omega
    · rw [if_neg hij, h3 i hi]
      congr 2
      simp [hij]
theorem BuW.bytes {w : World} {N : Nat} {l : List UInt8} (h : BuW w N l) (hl : l.length ≤ maxLen) : BytesAt w (some ⟨N, 0, none⟩) l := by
  refine ⟨by rw [List.length_map]; exact hl, fun _ => ⟨N, 0, rfl, ?_, fun j hj => ?_⟩⟩
  · obtain ⟨cur, h1, _⟩ := h
    exact (Array.getElem?_eq_some_iff.1 h1).1
  · rw [List.length_map] at hj
    rw [Nat.zero_add, (h.cell hj).1, List.getElem_map]
    rfl
theorem low_step (l : List UInt8) (k : Nat) (hk : k < l.length) : ((low (l.take k) ++ l.drop k).set k (sml l[k])) = low (l.take (k + 1)) ++ l.drop (k + 1) ∧ (low (l.take k) ++ l.drop k)[k]? = some l[k] := by
  have hlen : (low (l.take k)).length = k := by rw [low_len, List.length_take]; omega
  have hd : l.drop k = l[k] :: l.drop (k + 1) := List.drop_eq_getElem_cons hk
  constructor
  · rw [List.set_append_right _ _ (by omega), hlen, Nat.sub_self, hd, List.set_cons_zero, List.take_succ_eq_append_getElem hk, low_app, List.append_assoc]
    rfl
  · rw [List.getElem?_append_right (by omega), hlen, Nat.sub_self, hd]
    rfl
set_option maxRecDepth 100000 in
set_option maxHeartbeats 1000000 in
theorem inSmall_any (l : List UInt8) (hl : l.length ≤ 4611686018427387904) (w : World) : Calls Tryz.prog 79 #[.string (bs l)] w fun e w' => e = .returned (.string (bs (low l))) ∧ Below w.heap.size w w' := by
  have hcv := Lib.run_convert_string_bytes (P := Tryz.prog) w 9 40 5 (bs l) (u := .string) Tryz.underlying9 Tryz.underlying40 Tryz.underlying5
  rw [bs_size] at hcv
  have HB := Lib.hid (BuW.new w l)
  have HLW := Lib.hid (bytesWorld_low w 5 (bs l))
  have hcg : l.length ≤ grownCap w l.length 0 5 := grownCap_ge w l.length 0 _
  generalize grownCap w l.length 0 5 = cp at *
  generalize Lib.bytesWorld w 5 (bs l) = W1 at *
  obtain ⟨N, hN⟩ : ∃ N, N = w.heap.size := ⟨_, rfl⟩
  rw [← hN] at HB HLW hcv ⊢
  obtain ⟨n, hn⟩ : ∃ n, n = l.length := ⟨_, rfl⟩
  rw [← hn] at hcg hcv hl
  have HNN := Lib.hid hn
  clear hN hn
  generalize hS : bs l = S at *
  clear hS
  go_enter Tryz.func79, Tryz.ntmps79
  go_wp2
  go_loopw [10] (fun i wr => ∃ k : Nat, k ≤ n ∧ i = .int .i64 k ∧ Hid (BuW wr N (low (l.take k) ++ l.drop k)) ∧ Hid (Below N w wr)) (fun i _ => n - (intOf i).toNat)
  case atStart => exact ⟨0, Nat.zero_le _, rfl, HB.out, HLW.out⟩
  case round =>
    obtain ⟨k, hk, rfl, HBR, HLR⟩ := hrel
    have hk0 : (0 : Int) ≤ (k : Int) := by omega
    by_cases hlt : k < n
    · have hkl : k < l.length := by rw [← HNN.out]; exact hlt
      have hkz : (k : Int) < (n : Int) := by omega
      obtain ⟨e1, e2⟩ := low_step l k hkl
      obtain ⟨e3, e4⟩ := List.getElem?_eq_some_iff.1 e2
      have hcell := HBR.out.cell e3
      rw [e4] at hcell
      obtain ⟨c0, f0⟩ := hcell
      have HP := Lib.hid (HBR.out.put e3 (sml l[k]))
      rw [e1] at HP
      have HSM := Lib.hid (fun W => small_any l[k] W)
      have HLP : Hid (∀ u, Below N w (wr.setCell ⟨N, k, none⟩ u)) := fun u => HLR.out.setCell (p := ⟨N, k, none⟩) (Nat.le_refl _) u
      clear e1 e2 e3 e4
      generalize l[k] = c at *
      clear hkl
      have hkc : k < cp := by omega
      go_wp2_with (go_at_call 93; refine (HSM.out _).mono ?_; rintro e w' ⟨rfl, rfl⟩)
      go_roundw
      case rel => exact ⟨k + 1, by omega, by go_num, HP.out, HLP.out _⟩
      case measure => simp [intOf]; omega
    · have hke : k = n := by omega
      have hkz : ¬ (k : Int) < (n : Int) := by omega
      have HB2 := Lib.hid (HBR.out)
      rw [hke, HNN.out, List.take_length, List.drop_length, List.append_nil] at HB2
      have hcv2 := conv_any wr (some ⟨N, 0, none⟩) (low l) cp (HB2.out.bytes (by rw [low_len, ← HNN.out]; unfold maxLen; omega))
      rw [low_len, ← HNN.out] at hcv2
      clear hke HBR
      go_wp2
      go_ret
      exact ⟨rfl, HLR.out⟩
end Go.Proofs.YtjgadocojdieeaaGreatDoor
