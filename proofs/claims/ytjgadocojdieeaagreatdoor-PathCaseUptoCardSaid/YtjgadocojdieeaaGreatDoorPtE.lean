/-
  A reader's methods: whole, and those of domains. Conditions: the reader lies in memory.
-/
import Derived.Test.YtjgadocojdieeaaGreatDoorPtD
import Derived.Test.YtjgadocojdieeaaGreatDoorGh
namespace Go.Proofs.YtjgadocojdieeaaGreatDoor
open Go.RowKit Go.Shelf

def wholeR (g : Rd) (st : Rs) : Bool := (g st).1 && ((g st).2.rest == [])
def WholeOut (w : World) (r : Nat) (s : List UInt8) (g : Rd) (st : Rs) (e : Ending) (w' : World) : Prop := e = .returned (.bool (wholeR g st)) ∧ RdAt w' r s (g st).2 ∧ Kp r w w'
theorem RdAt.drewN {w : World} {r : Nat} {s : List UInt8} {st : Rs} (h : RdAt w r s st) (n : Nat) : RdAt (w.drewN n) r s st := by
  obtain ⟨p, v, h⟩ := h
  exact ⟨p, v, h.drewN n⟩
theorem RdAt.drew {w : World} {r : Nat} {s : List UInt8} {st : Rs} (h : RdAt w r s st) : RdAt w.drew r s st := h.drewN 1
theorem Kp.from_drew {r : Nat} {a b : World} (h : Kp r a.drew b) : Kp r a b := ((Kp.refl r a).drewN 1).trans h
set_option maxRecDepth 100000 in
set_option maxHeartbeats 2000000 in
theorem whole_any {I : List UInt8 → Rs → Prop} {m k : Nat} {g : Rd} (hk : Reads I m k g) (ek : Ent k) {w : World} {r : Nat} {s : List UInt8} {st : Rs} (h : RdAt w r s st) (hm : s.length ≤ m) (hI : I s st) : Calls Tryz.prog 40 #[.pointer (some ⟨r, 0, none⟩), meth k r] w (WholeOut w r s g st) := by
  have ek' : ∀ args w, (callFunc k args).run Tryz.prog w = .ok (.enter k args) w := ek
  have HC := Lib.hid (hk s r w.drew st hm hI h.drew)
  have HOUT : Hid (∀ w' p1 v1 b, RdIn w' r s p1 v1 (g st).2 → Kp r w.drew w' → b = ((g st).1 && decide ((p1 : Int) = (s.length : Int))) → WholeOut w r s g st (.returned (.bool b)) w') := fun w' p1 v1 b hr hkp hb => by
    refine ⟨?_, ⟨p1, v1, hr⟩, hkp.from_drew⟩
    rw [hb]
    unfold wholeR
    have h1 := hr.count
    have h2 := hr.place
    have : decide ((p1 : Int) = (s.length : Int)) = ((g st).2.rest == []) := by
      cases hrest : (g st).2.rest with
      | nil => rw [hrest] at h1; simp at h1; simp [h1]
      | cons c l => rw [hrest] at h1; simp at h1; simp; omega
    rw [this]
  have hsz : (bs s).size = s.length := rfl
  generalize WholeOut w r s g st = Q at *
  clear h hm hI hk ek
  unfold meth
  go_enter Tryz.func40, Tryz.ntmps40
  cases hg : (g st).1 with
  | false =>
    have HG := Lib.hid hg
    clear hg
    go_upto_region 1 with (fail)
    refine wp_region_any (by kernel_rfl) ?_
    change wpAny _ _ _ _ _ _ _ (World.drew _)
    refine wpAny_take (i := 0) rfl (by kernel_rfl) (by kernel_rfl) (by kernel_rfl) (fun _ _ _ h => h) (Or.inl ⟨by rfl, fun w => by go_simp; try with_reducible rfl⟩) ?_; try simp only [Act.put, List.setIfInBounds_toArray]
    refine wpAny_ready (rs := [1]) (by kernel_rfl) (by simp) ?_
    refine AllReady.cons rfl (fun K hK => ?_) AllReady.nil
    go_simp
    refine HC.out.mono ?_
    rintro e w1 ⟨rfl, ⟨p1, v1, h1⟩, hkp⟩
    rw [HG.out]
    have H1 := Lib.hid h1
    have HKP := Lib.hid hkp
    clear h1 hkp
    refine hK _ _ ?_
    clear hK K
    try simp only [Act.put, List.setIfInBounds_toArray, List.set_cons_zero, List.set_cons_succ]
    have c0 := H1.out.cells.cell 0
    have c1 := H1.out.cells.cell 1
    simp only [rdCells] at c0 c1
    simp at c0 c1
    refine wpAny_of_held (S := fun W => W.cell? ⟨r, 0, none⟩ = some (.string (bs s)) ∧ W.cell? ⟨r, 1, none⟩ = some (.int .i64 (p1 : Int))) _ _ _ _ ?_
    have hS := And.intro c0 c1
    refine take_val (i := 2) rfl (by kernel_rfl) (by kernel_rfl) (by kernel_rfl) (fun _ _ _ h => h) rfl (fun w hSw => by (try dsimp only at hSw); go_simp; try with_reducible rfl) hS ?_; try simp only [Act.put, List.setIfInBounds_toArray, List.set_cons_zero, List.set_cons_succ]
    refine take_skip (i := 3) rfl (by kernel_rfl) (by kernel_rfl) (by kernel_rfl) (fun _ _ _ h => h) rfl hS ?_; try simp only [Act.put, List.setIfInBounds_toArray, List.set_cons_zero, List.set_cons_succ]
    refine take_skip (i := 4) rfl (by kernel_rfl) (by kernel_rfl) (by kernel_rfl) (fun _ _ _ h => h) rfl hS ?_; try simp only [Act.put, List.setIfInBounds_toArray, List.set_cons_zero, List.set_cons_succ]
    refine take_skip (i := 5) rfl (by kernel_rfl) (by kernel_rfl) (by kernel_rfl) (fun _ _ _ h => h) rfl hS ?_; try simp only [Act.put, List.setIfInBounds_toArray, List.set_cons_zero, List.set_cons_succ]
    refine take_skip (i := 6) rfl (by kernel_rfl) (by kernel_rfl) (by kernel_rfl) (fun _ _ _ h => h) rfl hS ?_; try simp only [Act.put, List.setIfInBounds_toArray, List.set_cons_zero, List.set_cons_succ]
    refine take_skip (i := 7) rfl (by kernel_rfl) (by kernel_rfl) (by kernel_rfl) (fun _ _ _ h => h) rfl hS ?_; try simp only [Act.put, List.setIfInBounds_toArray, List.set_cons_zero, List.set_cons_succ]
    refine take_skip (i := 8) rfl (by kernel_rfl) (by kernel_rfl) (by kernel_rfl) (fun _ _ _ h => h) rfl hS ?_; try simp only [Act.put, List.setIfInBounds_toArray, List.set_cons_zero, List.set_cons_succ]
    refine take_skip (i := 9) rfl (by kernel_rfl) (by kernel_rfl) (by kernel_rfl) (fun _ _ _ h => h) rfl hS ?_; try simp only [Act.put, List.setIfInBounds_toArray, List.set_cons_zero, List.set_cons_succ]
    refine take_skip (i := 10) rfl (by kernel_rfl) (by kernel_rfl) (by kernel_rfl) (fun _ _ _ h => h) rfl hS ?_; try simp only [Act.put, List.setIfInBounds_toArray, List.set_cons_zero, List.set_cons_succ]
    refine take_skip (i := 11) rfl (by kernel_rfl) (by kernel_rfl) (by kernel_rfl) (fun _ _ _ h => h) rfl hS ?_; try simp only [Act.put, List.setIfInBounds_toArray, List.set_cons_zero, List.set_cons_succ]
    refine take_skip (i := 12) rfl (by kernel_rfl) (by kernel_rfl) (by kernel_rfl) (fun _ _ _ h => h) rfl hS ?_; try simp only [Act.put, List.setIfInBounds_toArray, List.set_cons_zero, List.set_cons_succ]
    refine take_val (i := 13) rfl (by kernel_rfl) (by kernel_rfl) (by kernel_rfl) (fun _ _ _ h => h) rfl (fun w hSw => by (try dsimp only at hSw); go_simp; try with_reducible rfl) hS ?_; try simp only [Act.put, List.setIfInBounds_toArray, List.set_cons_zero, List.set_cons_succ]
    refine take_val (i := 14) rfl (by kernel_rfl) (by kernel_rfl) (by kernel_rfl) (fun _ _ _ h => h) rfl (fun w hSw => by (try dsimp only at hSw); go_simp; try with_reducible rfl) hS ?_; try simp only [Act.put, List.setIfInBounds_toArray, List.set_cons_zero, List.set_cons_succ]
    refine wpAnyH_done (by kernel_rfl) ?_ _
    clear hS
    go_wp2
    exact HOUT.out w1 p1 v1 _ H1.out HKP.out (by rw [HG.out]; rfl)
  | true =>
    have HG := Lib.hid hg
    clear hg
    go_upto_region 1 with (fail)
    refine wp_region_any (by kernel_rfl) ?_
    change wpAny _ _ _ _ _ _ _ (World.drew _)
    refine wpAny_take (i := 0) rfl (by kernel_rfl) (by kernel_rfl) (by kernel_rfl) (fun _ _ _ h => h) (Or.inl ⟨by rfl, fun w => by go_simp; try with_reducible rfl⟩) ?_; try simp only [Act.put, List.setIfInBounds_toArray]
    refine wpAny_ready (rs := [1]) (by kernel_rfl) (by simp) ?_
    refine AllReady.cons rfl (fun K hK => ?_) AllReady.nil
    go_simp
    refine HC.out.mono ?_
    rintro e w1 ⟨rfl, ⟨p1, v1, h1⟩, hkp⟩
    rw [HG.out]
    have H1 := Lib.hid h1
    have HKP := Lib.hid hkp
    clear h1 hkp
    refine hK _ _ ?_
    clear hK K
    try simp only [Act.put, List.setIfInBounds_toArray, List.set_cons_zero, List.set_cons_succ]
    have c0 := H1.out.cells.cell 0
    have c1 := H1.out.cells.cell 1
    simp only [rdCells] at c0 c1
    simp at c0 c1
    refine wpAny_of_held (S := fun W => W.cell? ⟨r, 0, none⟩ = some (.string (bs s)) ∧ W.cell? ⟨r, 1, none⟩ = some (.int .i64 (p1 : Int))) _ _ _ _ ?_
    have hS := And.intro c0 c1
    refine take_val (i := 2) rfl (by kernel_rfl) (by kernel_rfl) (by kernel_rfl) (fun _ _ _ h => h) rfl (fun w hSw => by (try dsimp only at hSw); go_simp; try with_reducible rfl) hS ?_; try simp only [Act.put, List.setIfInBounds_toArray, List.set_cons_zero, List.set_cons_succ]
    refine take_val (i := 3) rfl (by kernel_rfl) (by kernel_rfl) (by kernel_rfl) (fun _ _ _ h => h) rfl (fun w hSw => by (try dsimp only at hSw); go_simp; try with_reducible rfl) hS ?_; try simp only [Act.put, List.setIfInBounds_toArray, List.set_cons_zero, List.set_cons_succ]
    refine take_val (i := 4) rfl (by kernel_rfl) (by kernel_rfl) (by kernel_rfl) (fun _ _ _ h => h) rfl (fun w hSw => by (try dsimp only at hSw); go_simp; try with_reducible rfl) hS ?_; try simp only [Act.put, List.setIfInBounds_toArray, List.set_cons_zero, List.set_cons_succ]
    refine take_val (i := 5) rfl (by kernel_rfl) (by kernel_rfl) (by kernel_rfl) (fun _ _ _ h => h) rfl (fun w hSw => by (try dsimp only at hSw); go_simp; try with_reducible rfl) hS ?_; try simp only [Act.put, List.setIfInBounds_toArray, List.set_cons_zero, List.set_cons_succ]
    refine take_val (i := 6) rfl (by kernel_rfl) (by kernel_rfl) (by kernel_rfl) (fun _ _ _ h => h) rfl (fun w hSw => by (try dsimp only at hSw); go_simp; try with_reducible rfl) hS ?_; try simp only [Act.put, List.setIfInBounds_toArray, List.set_cons_zero, List.set_cons_succ]
    refine take_val (i := 7) rfl (by kernel_rfl) (by kernel_rfl) (by kernel_rfl) (fun _ _ _ h => h) rfl (fun w hSw => by (try dsimp only at hSw); go_simp; try with_reducible rfl) hS ?_; try simp only [Act.put, List.setIfInBounds_toArray, List.set_cons_zero, List.set_cons_succ]
    refine take_val (i := 8) rfl (by kernel_rfl) (by kernel_rfl) (by kernel_rfl) (fun _ _ _ h => h) rfl (fun w hSw => by (try dsimp only at hSw); go_simp; try with_reducible rfl) hS ?_; try simp only [Act.put, List.setIfInBounds_toArray, List.set_cons_zero, List.set_cons_succ]
    refine take_val (i := 9) rfl (by kernel_rfl) (by kernel_rfl) (by kernel_rfl) (fun _ _ _ h => h) rfl (fun w hSw => by (try dsimp only at hSw); go_simp; try with_reducible rfl) hS ?_; try simp only [Act.put, List.setIfInBounds_toArray, List.set_cons_zero, List.set_cons_succ]
    refine take_val (i := 10) rfl (by kernel_rfl) (by kernel_rfl) (by kernel_rfl) (fun _ _ _ h => h) rfl (fun w hSw => by (try dsimp only at hSw); go_simp; try with_reducible rfl) hS ?_; try simp only [Act.put, List.setIfInBounds_toArray, List.set_cons_zero, List.set_cons_succ]
    refine take_val (i := 11) rfl (by kernel_rfl) (by kernel_rfl) (by kernel_rfl) (fun _ _ _ h => h) rfl (fun w hSw => by (try dsimp only at hSw); go_simp; try with_reducible rfl) hS ?_; try simp only [Act.put, List.setIfInBounds_toArray, List.set_cons_zero, List.set_cons_succ]
    refine take_val (i := 12) rfl (by kernel_rfl) (by kernel_rfl) (by kernel_rfl) (fun _ _ _ h => h) rfl (fun w hSw => by (try dsimp only at hSw); go_simp; try with_reducible rfl) hS ?_; try simp only [Act.put, List.setIfInBounds_toArray, List.set_cons_zero, List.set_cons_succ]
    refine take_val (i := 13) rfl (by kernel_rfl) (by kernel_rfl) (by kernel_rfl) (fun _ _ _ h => h) rfl (fun w hSw => by (try dsimp only at hSw); go_simp; try with_reducible rfl) hS ?_; try simp only [Act.put, List.setIfInBounds_toArray, List.set_cons_zero, List.set_cons_succ]
    refine take_val (i := 14) rfl (by kernel_rfl) (by kernel_rfl) (by kernel_rfl) (fun _ _ _ h => h) rfl (fun w hSw => by (try dsimp only at hSw); go_simp; try with_reducible rfl) hS ?_; try simp only [Act.put, List.setIfInBounds_toArray, List.set_cons_zero, List.set_cons_succ]
    refine wpAnyH_done (by kernel_rfl) ?_ _
    clear hS
    go_wp2
    exact HOUT.out w1 p1 v1 _ H1.out HKP.out (by rw [HG.out]; rfl)
end Go.Proofs.YtjgadocojdieeaaGreatDoor
