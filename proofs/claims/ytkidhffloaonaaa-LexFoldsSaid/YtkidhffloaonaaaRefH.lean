/-
  The contract of frankingref01's next, where a value begins, and all together. Conditions: a text of at most 65536 bytes, a place within it at which neither a blank nor a remark begins.
-/
import Derived.Test.YtkidhffloaonaaaRefG
namespace Go.Proofs.Ytkidhffloaonaaa
open Go.RowKit

theorem values_tok (r : List UInt8) : (valuesP r).err = 0 ∨ valuesP r = wrongP := by
  unfold valuesP
  cases valueZ r 2 (baseZ r) with
  | none => exact .inr rfl
  | some ak =>
    obtain ⟨a, k⟩ := ak
    rw [valuesOf]
    split
    · cases valueZ r (k + 1) (baseZ r) with
      | none => exact .inr rfl
      | some bk =>
        obtain ⟨b, k2⟩ := bk
        rw [rangeOf]
        split
        · exact .inr rfl
        · exact .inl rfl
    · cases moreVals r (baseZ r) (r.length + 1) k [a] with
      | none => exact .inr rfl
      | some nk => exact .inl rfl

set_option maxRecDepth 100000 in
set_option maxHeartbeats 2000000 in
theorem refNext_37 (s : ByteArray) (at_ : Nat) (hs : s.size ≤ 65536) (hat : at_ < s.size) (hB : ((s[at_]'hat).toNat : Int) = 37) (t : List UInt8) (hr : s.data.toList.drop at_ = 37 :: t) (w : World) :
    Calls Try.prog 27 #[.string s, .int .i64 at_] w fun e w' => e = .returned (refV (readP (s.data.toList.drop at_)) at_) ∧ Below w.heap.size w w' := by
  have HP : Hid (readP (s.data.toList.drop at_) = valuesP (s.data.toList.drop at_)) := by
    show _ = _
    rw [hr]
    exact read_37 t
  have HV := Lib.hid (fun W => refValue_any s at_ hs hat W)
  have hvt := values_tok (s.data.toList.drop at_)
  generalize readP (s.data.toList.drop at_) = P at *
  rw [← HP.out] at HV hvt
  clear hr HP
  have HL0 := Lib.hid (fun W => refLetter_any 37 W)
  have HD0 := Lib.hid (fun W => refDigit_any 37 W)
  rw [show letterZ 37 = false from by decide] at HL0
  rw [show digitZ 37 = false from by decide] at HD0
  by_cases he : P.err = 0
  · have HE := Lib.hid he
    unfold refValV at HV
    rw [if_pos he] at HV
    clear he hvt
    go_enter Try.func27, Try.ntmps27
    go_wp2_with (first | (go_at_call 25; refine (HL0.out _).mono ?_; rintro e w' ⟨rfl, rfl⟩) | (go_at_call 52; refine (HD0.out _).mono ?_; rintro e w' ⟨rfl, rfl⟩))
    refine (HV.out _).mono ?_
    rintro e w1 ⟨rfl, hb1⟩
    obtain ⟨hR, hB1⟩ := zeroTok_blk hb1
    have hlt1 := hR.lt
    have hcR := hR.cell
    have hfR := hR.frozen
    unfold zeroTok at hcR
    unfold tokV
    clear hb1
    go_wp2
    have hset : ∀ (X : World) (o : Obj) (k : Nat), X.heap.size = w1.heap.size → (X.alloc o).cell? ⟨w.heap.size, k, none⟩ = X.cell? ⟨w.heap.size, k, none⟩ := fun X o k hX => World.cell?_alloc_past _ _ _ (by rw [hX]; exact hlt1)
    refine bodyPost_ret (v := .tuple #[tokV P.tok, .int .i64 ((at_ : Int) + P.size), .int .i64 0]) ?_ rfl ⟨?_, ?_⟩
    · simp [results, Try.results27, go_sem, tokV, hset, hcR]
    · have := ret_refV (p := P) (at_ := at_) (x := (at_ : Int) + P.size) (by rw [if_pos HE.out])
      rw [HE.out] at this
      exact this
    · refine Below.alloc ?_ (by simp; omega) _
      iterate 7 refine Below.setCell ?_ (by simp) _
      exact hB1
  · have hw : P = wrongP := by
      rcases hvt with h | h
      · exact absurd h he
      · exact h
    have HW := Lib.hid hw
    unfold refValV at HV
    rw [if_neg he] at HV
    clear he hvt hw
    go_enter Try.func27, Try.ntmps27
    go_wp2_with (first | (go_at_call 25; refine (HL0.out _).mono ?_; rintro e w' ⟨rfl, rfl⟩) | (go_at_call 52; refine (HD0.out _).mono ?_; rintro e w' ⟨rfl, rfl⟩))
    refine (HV.out _).mono ?_
    rintro e w1 ⟨rfl, hb1⟩
    obtain ⟨hR, hB1⟩ := zeroTok_blk hb1
    have hlt1 := hR.lt
    have hcR := hR.cell
    have hfR := hR.frozen
    unfold zeroTok at hcR
    unfold tokV
    clear hb1
    go_wp2
    have hset : ∀ (X : World) (o : Obj) (k : Nat), X.heap.size = w1.heap.size → (X.alloc o).cell? ⟨w.heap.size, k, none⟩ = X.cell? ⟨w.heap.size, k, none⟩ := fun X o k hX => World.cell?_alloc_past _ _ _ (by rw [hX]; exact hlt1)
    refine bodyPost_ret (v := .tuple #[tokV {}, .int .i64 (at_ : Int), .int .i64 15]) ?_ rfl ⟨by rw [HW.out]; rfl, ?_⟩
    · simp [results, Try.results27, go_sem, tokV, hset, hcR]
      rfl
    · refine Below.alloc ?_ (by simp; omega) _
      iterate 7 refine Below.setCell ?_ (by simp) _
      exact hB1
end Go.Proofs.Ytkidhffloaonaaa
