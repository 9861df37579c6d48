/-
  The contracts of path.Domain, path.Literal, path.Mailbox, path.Parse. Conditions: the text is of at most 2^40 bytes; the library's variable holds some value.
-/
import Derived.Test.YtjgadocojdieeaaGreatDoorPtS
namespace Go.Proofs.YtjgadocojdieeaaGreatDoor
open Go.RowKit Go.Shelf

abbrev ErrG : Nat := 4
set_option maxRecDepth 100000 in
set_option maxHeartbeats 1000000 in
theorem domain_fun (s : List UInt8) (hs : s.length ≤ 4611686018427387904) (w : World) (he : ErrAt w) (hg : ErrG < w.heap.size) : Calls Tryz.prog 9 #[.string (bs s)] w fun e w' => e = .returned (.bool (dB s && !dL s)) ∧ Below w.heap.size w w' := by
  have hr := new_reader w s (by omega) he hg
  have hb : Below w.heap.size w (w.alloc (.cells #[.string (bs s), .int .i64 0, .bool false, .slice none 0 0, .string ⟨#[]⟩, .string ⟨#[]⟩, .bool false, .bool false] 49)) := (Below.refl _ w).alloc (Nat.le_refl _) _
  have HW := Lib.hid (whole_any (domain_any 4611686018427387904 (Nat.le_refl _)) ent_m_domain hr hs trivial)
  have HB := Lib.hid hb
  have HWR : Hid (wholeR domainR (st0 s) = dB s) := rfl
  have HLL : Hid ((domainR (st0 s)).2.long = dL s) := rfl
  unfold meth at HW
  have hmf : ∀ (fn : Fn) (first cap : Array Value) (w : World), (Instr.makeFunc fn first cap).run Tryz.prog w = .ok (.func fn first cap) w := fun _ _ _ _ => rfl
  clear hr hb he hg hs
  cases hd : dB s with
  | false =>
    have HD := Lib.hid hd
    clear hd
    go_enter Tryz.func9, Tryz.ntmps9
    go_wp2_with (go_at_call 40; refine HW.out.mono ?_; rintro e w1 ⟨rfl, h1, hkp⟩; rw [HWR.out, HD.out]; have HKP1 := Lib.hid hkp; clear h1 hkp)
    go_ret
    exact ⟨rfl, HB.out.trans HKP1.out.low⟩
  | true =>
    have HD := Lib.hid hd
    clear hd
    go_enter Tryz.func9, Tryz.ntmps9
    go_wp2_with (go_at_call 40; refine HW.out.mono ?_; rintro e w1 ⟨rfl, h1, hkp⟩; rw [HWR.out, HD.out]; have HKP1 := Lib.hid hkp; obtain ⟨p1, v1, hr1⟩ := h1; have c7 := hr1.cells.cell 7; simp only [rdCells] at c7; simp at c7; rw [HLL.out] at c7; clear hr1 hkp)
    go_ret
    exact ⟨rfl, HB.out.trans HKP1.out.low⟩
set_option maxRecDepth 100000 in
set_option maxHeartbeats 1000000 in
theorem literal_fun (s : List UInt8) (hs : s.length ≤ 4611686018427387900) (w : World) (he : ErrAt w) (hg : ErrG < w.heap.size) : Calls Tryz.prog 11 #[.string (bs s)] w fun e w' => e = .returned (.bool (wB s)) ∧ Below w.heap.size w w' := by
  have hr := new_reader w s (by omega) he hg
  have hb : Below w.heap.size w (w.alloc (.cells #[.string (bs s), .int .i64 0, .bool false, .slice none 0 0, .string ⟨#[]⟩, .string ⟨#[]⟩, .bool false, .bool false] 49)) := (Below.refl _ w).alloc (Nat.le_refl _) _
  have HW := Lib.hid (whole_any (words_any 4611686018427387900 (Nat.le_refl _)) ent_m_words hr hs trivial)
  have HB := Lib.hid hb
  have HWR : Hid (wholeR wordsR (st0 s) = wB s) := rfl
  unfold meth at HW
  have hmf : ∀ (fn : Fn) (first cap : Array Value) (w : World), (Instr.makeFunc fn first cap).run Tryz.prog w = .ok (.func fn first cap) w := fun _ _ _ _ => rfl
  clear hr hb he hg hs
  go_enter Tryz.func11, Tryz.ntmps11
  go_wp2_with (go_at_call 40; refine HW.out.mono ?_; rintro e w1 ⟨rfl, h1, hkp⟩; rw [HWR.out]; have HKP1 := Lib.hid hkp; clear h1 hkp)
  go_ret
  exact ⟨rfl, HB.out.trans HKP1.out.low⟩
def boxCells (loc d : List UInt8) (lit : Bool) : Array Value := #[.string (bs loc), .string (bs d), .bool lit]
/-- what is told of a mailbox -/
def mailboxP (s : List UInt8) : Int × List UInt8 × List UInt8 × Bool :=
  if verdictP (wholeR mailboxR (st0 s)) (mailboxR (st0 s)).2.long = 0 then (0, (mailboxR (st0 s)).2.loc, (mailboxR (st0 s)).2.dom, (mailboxR (st0 s)).2.lit)
  else (verdictP (wholeR mailboxR (st0 s)) (mailboxR (st0 s)).2.long, [], [], false)
def rdNew (s : List UInt8) : Obj := .cells #[.string (bs s), .int .i64 0, .bool false, .slice none 0 0, .string ⟨#[]⟩, .string ⟨#[]⟩, .bool false, .bool false] 49
def MailOut (w : World) (s : List UInt8) (e : Ending) (w' : World) : Prop := e = .returned (.tuple #[.agg (boxCells (mailboxP s).2.1 (mailboxP s).2.2.1 (mailboxP s).2.2.2), .int .i64 (mailboxP s).1]) ∧ Below w.heap.size w w'
theorem infoBox : (Tryz.prog.info? 24).map (·.size) = some 3 := by kernel_rfl
theorem verdict_ne (b lg : Bool) (h : verdictP b lg ≠ 0) : verdictP b lg = 150 ∨ verdictP b lg = 3 := by
  unfold verdictP at *
  cases b <;> cases lg <;> simp_all
set_option maxRecDepth 100000 in
set_option maxHeartbeats 1000000 in
theorem mailbox_fun (s : List UInt8) (hs : s.length ≤ 1099511627776) (w : World) (he : ErrAt w) (hg : ErrG < w.heap.size) : Calls Tryz.prog 13 #[.string (bs s)] w (MailOut w s) := by
  obtain ⟨W0, hW0⟩ : ∃ W0, W0 = w.alloc (.cells #[.string ⟨#[]⟩, .string ⟨#[]⟩, .bool false] 24) := ⟨_, rfl⟩
  have hsz : W0.heap.size = w.heap.size + 1 := by rw [hW0, World.size_alloc]
  have hb0 : Below w.heap.size w W0 := by rw [hW0]; exact (Below.refl _ w).alloc (Nat.le_refl _) _
  have hx0 : Blk W0 w.heap.size 24 #[.string ⟨#[]⟩, .string ⟨#[]⟩, .bool false] := by rw [hW0]; exact Blk.new _ _ _
  obtain ⟨W1, hW1⟩ : ∃ W1, W1 = W0.alloc (rdNew s) := ⟨_, rfl⟩
  have hb1 : Below W0.heap.size W0 W1 := by rw [hW1]; exact (Below.refl _ W0).alloc (Nat.le_refl _) _
  have hr : RdAt W1 (w.heap.size + 1) s (st0 s) := by
    rw [hW1, ← hsz]
    exact new_reader W0 s (by omega) (he.below hb0 hg) (Nat.lt_of_lt_of_le hg (by omega))
  unfold rdNew at hW1
  rw [hW0] at hW1
  have HW := Lib.hid (whole_any (mailbox_any 1099511627776 (Nat.le_refl _)) ent_m_mailbox hr hs trivial)
  have HX := Lib.hid (fun W (hk : Kp (w.heap.size + 1) W1 W) => (show Blk W w.heap.size 24 #[.string ⟨#[]⟩, .string ⟨#[]⟩, .bool false] from (hx0.below hb1 hx0.lt).below hk.low (Nat.lt_succ_self _)))
  have HB := Lib.hid (fun W (hk : Kp (w.heap.size + 1) W1 W) => (show Below w.heap.size w W from low_trans hb0 (hb1.trans (hsz ▸ hk.low))))
  have HBS : Hid (∀ W' i u, Below w.heap.size w W' → Below w.heap.size w (W'.setCell ⟨w.heap.size, i, none⟩ u)) := fun W' i u h => h.setCell (p := ⟨w.heap.size, i, none⟩) (Nat.le_refl _) u
  unfold meth at HW
  have HYES : Hid (∀ W', verdictP (wholeR mailboxR (st0 s)) (mailboxR (st0 s)).2.long = 0 → Below w.heap.size w W' → MailOut w s (.returned (.tuple #[.agg #[.string (bs (mailboxR (st0 s)).2.loc), .string (bs (mailboxR (st0 s)).2.dom), .bool (mailboxR (st0 s)).2.lit], .int .i64 0])) W') := fun W' hv h => by
    unfold MailOut mailboxP
    rw [if_pos hv]
    exact ⟨rfl, h⟩
  have HNO : Hid (∀ W' z, verdictP (wholeR mailboxR (st0 s)) (mailboxR (st0 s)).2.long = z → z ≠ 0 → Below w.heap.size w W' → MailOut w s (.returned (.tuple #[.agg #[.string ⟨#[]⟩, .string ⟨#[]⟩, .bool false], .int .i64 z])) W') := fun W' z hv hz h => by
    unfold MailOut mailboxP
    rw [if_neg (by rw [hv]; exact hz), hv]
    exact ⟨rfl, h⟩
  generalize MailOut w s = Q at *
  have hmf : ∀ (fn : Fn) (first cap : Array Value) (w : World), (Instr.makeFunc fn first cap).run Tryz.prog w = .ok (.func fn first cap) w := fun _ _ _ _ => rfl
  have HW1 := Lib.hid hW1
  clear hr he hg hs hb0 hb1 hx0 hW0 hW1 hsz
  by_cases hv : verdictP (wholeR mailboxR (st0 s)) (mailboxR (st0 s)).2.long = 0
  · have HV := Lib.hid hv
    have HO := Lib.hid (fun W' => HYES.out W' hv)
    clear hv HYES HNO
    go_enter Tryz.func13, Tryz.ntmps13
    go_upto_region 2 with (fail)
    rw [← HW1.out]
    obtain ⟨r, hr⟩ : ∃ r, r = w.heap.size + 1 := ⟨_, rfl⟩
    rw [← hr] at HW HX HB ⊢
    clear HW1
    obtain ⟨g0, hg0⟩ : ∃ g0, g0 = w.heap.size := ⟨_, rfl⟩
    rw [← hg0] at HX HB HO HBS ⊢
    clear hr hg0
    go_upto_region 5 with (first | (go_at_call 40; refine HW.out.mono ?_; rintro e w1 ⟨rfl, h1, hkp⟩; have H1 := Lib.hid h1; have HKP1 := Lib.hid hkp; clear h1 hkp HW) | (go_at_call 27; refine (verdict_any H1.out _).mono ?_; rintro e w2 ⟨rfl, rfl⟩; rw [HV.out]))
    have hx := HX.out w2 HKP1.out
    obtain ⟨p1, v1, hr1⟩ := H1.out
    have c4 := hr1.cells.cell 4
    have c5 := hr1.cells.cell 5
    have c6 := hr1.cells.cell 6
    simp only [rdCells] at c4 c5 c6
    simp at c4 c5 c6
    have x0 := hx.cell 0
    have x1 := hx.cell 1
    have x2 := hx.cell 2
    have y0 := hx.frozen 0
    have y1 := hx.frozen 1
    have y2 := hx.frozen 2
    simp at x0 x1 x2
    clear hr1
    have HY := Lib.hid (((hx.set_ 0 (.string (bs (mailboxR (st0 s)).2.loc))).set_ 1 (.string (bs (mailboxR (st0 s)).2.dom))).set_ 2 (.bool (mailboxR (st0 s)).2.lit))
    have HL := Lib.hid (HBS.out _ 2 (.bool (mailboxR (st0 s)).2.lit) (HBS.out _ 1 (.string (bs (mailboxR (st0 s)).2.dom)) (HBS.out _ 0 (.string (bs (mailboxR (st0 s)).2.loc)) (HB.out w2 HKP1.out))))
    clear hx
    go_wp2
    refine bodyPost_ret (results_cell_tmp rfl _ _ g0 24 _ (0, 0) _ rfl HY.out Tryz.underlying24 rfl infoBox) rfl ?_
    exact HO.out _ HL.out
  · have hz := verdict_ne _ _ hv
    obtain ⟨z, hzz⟩ : ∃ z, z = verdictP (wholeR mailboxR (st0 s)) (mailboxR (st0 s)).2.long := ⟨_, rfl⟩
    have HV := Lib.hid hzz.symm
    rw [← hzz] at hz hv
    have HO := Lib.hid (fun W' => HNO.out W' z HV.out hv)
    have hzb : (z == 0) = false := by simpa using hv
    clear HYES HNO hzz hz
    go_enter Tryz.func13, Tryz.ntmps13
    go_upto_region 2 with (fail)
    rw [← HW1.out]
    obtain ⟨r, hr⟩ : ∃ r, r = w.heap.size + 1 := ⟨_, rfl⟩
    rw [← hr] at HW HX HB ⊢
    clear HW1
    obtain ⟨g0, hg0⟩ : ∃ g0, g0 = w.heap.size := ⟨_, rfl⟩
    rw [← hg0] at HX HB HO HBS ⊢
    clear hr hg0
    go_upto_region 4 with (first | (go_at_call 40; refine HW.out.mono ?_; rintro e w1 ⟨rfl, h1, hkp⟩; have H1 := Lib.hid h1; have HKP1 := Lib.hid hkp; clear h1 hkp HW) | (go_at_call 27; refine (verdict_any H1.out _).mono ?_; rintro e w2 ⟨rfl, rfl⟩; rw [HV.out]))
    have hx := HX.out w2 HKP1.out
    have x0 := hx.cell 0
    have x1 := hx.cell 1
    have x2 := hx.cell 2
    have y0 := hx.frozen 0
    have y1 := hx.frozen 1
    have y2 := hx.frozen 2
    simp at x0 x1 x2
    have HY := Lib.hid (((hx.set_ 0 (.string ⟨#[]⟩)).set_ 1 (.string ⟨#[]⟩)).set_ 2 (.bool false))
    have HL := Lib.hid (HBS.out _ 2 (.bool false) (HBS.out _ 1 (.string ⟨#[]⟩) (HBS.out _ 0 (.string ⟨#[]⟩) (HB.out w2 HKP1.out))))
    clear hx
    go_wp2
    refine bodyPost_ret (results_cell_tmp rfl _ _ g0 24 _ (0, 0) _ rfl HY.out Tryz.underlying24 rfl infoBox) rfl ?_
    exact HO.out _ HL.out
end Go.Proofs.YtjgadocojdieeaaGreatDoor
