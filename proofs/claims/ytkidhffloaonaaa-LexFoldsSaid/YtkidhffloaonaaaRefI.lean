/-
  The contract of frankingref01's next, all together. Conditions: a text of at most 65536 bytes, a place within it at which neither a blank nor a remark begins.
-/
import Derived.Test.YtkidhffloaonaaaRefH
namespace Go.Proofs.Ytkidhffloaonaaa
open Go.RowKit

theorem refNext_any (s : ByteArray) (at_ : Nat) (hs : s.size ≤ 65536) (hat : at_ < s.size) (hb : blankZ (byteZ s.data.toList at_) = false) (hr : byteZ s.data.toList at_ ≠ 59) (w : World) :
    Calls Try.prog 27 #[.string s, .int .i64 at_] w fun e w' => e = .returned (refV (readP (s.data.toList.drop at_)) at_) ∧ Below w.heap.size w w' := by
  obtain ⟨c, hc, hcb⟩ := drop_byte s.data.toList at_ (by rw [listLen]; exact hat)
  have hB := byteZ_at s at_ hat
  cases hl : letterZ (byteZ s.data.toList at_) with
  | true => exact refNext_letter s at_ hs hat hl w
  | false =>
    have hcc : (c.toNat : Int) = byteZ s.data.toList at_ := by
      have := byteZ_drop s.data.toList at_ 0
      rw [hc] at this
      exact this
    have hci : (c.toNat : Int) = ((s[at_]'hat).toNat : Int) := by rw [hcc, hB]
    cases ht : timesZ (byteZ s.data.toList at_) with
    | true => exact refNext_times s at_ hs hat c hci _ hc (by rw [hcc]; exact ht) w
    | false =>
      by_cases h61 : c = 61
      · subst h61; exact refNext_61 s at_ hs hat hci.symm _ hc w
      by_cases h47 : c = 47
      · subst h47; exact refNext_47 s at_ hs hat hci.symm _ hc w
      by_cases h40 : c = 40
      · subst h40; exact refNext_40 s at_ hs hat hci.symm _ hc w
      by_cases h41 : c = 41
      · subst h41; exact refNext_41 s at_ hs hat hci.symm _ hc w
      by_cases h91 : c = 91
      · subst h91; exact refNext_91 s at_ hs hat hci.symm _ hc w
      by_cases h93 : c = 93
      · subst h93; exact refNext_93 s at_ hs hat hci.symm _ hc w
      by_cases h60 : c = 60
      · subst h60; exact refNext_60 s at_ hs hat hci.symm _ hc w
      by_cases h34 : c = 34
      · subst h34; exact refNext_34 s at_ hs hat hci.symm _ hc w
      by_cases h37 : c = 37
      · subst h37; exact refNext_37 s at_ hs hat hci.symm _ hc w
      refine refNext_else s at_ hs hat c hci _ hc (by rw [hcc]; exact hb) (by rw [hcc]; exact hl) (by rw [hcc]; exact ht) ?_ w
      intro k hk e
      subst e
      simp only [List.mem_cons, List.not_mem_nil, or_false] at hk
      rcases hk with h | h | h | h | h | h | h | h | h | h
      · subst h; exact hr hcc.symm
      all_goals contradiction
end Go.Proofs.Ytkidhffloaonaaa
