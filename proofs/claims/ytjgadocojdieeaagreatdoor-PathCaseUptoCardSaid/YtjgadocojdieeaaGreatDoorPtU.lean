/-
  The contract of path.Parse. Conditions: the text is of at most 2^40 bytes; the library's variable holds some value.
-/
import Derived.Test.YtjgadocojdieeaaGreatDoorPtT
import Derived.Test.YtjgadocojdieeaaGreatDoorPtG
namespace Go.Proofs.YtjgadocojdieeaaGreatDoor
open Go.RowKit Go.Shelf

/-- what is told of a text's beginning: the error, the path, how many bytes it has -/
def parseP (s : List UInt8) : Int × Pa × Nat :=
  if verdictP (parseR (st0 s)).1 (parseR (st0 s)).2.long = 0 then (0, paOf (parseR (st0 s)).2, s.length - (parseR (st0 s)).2.rest.length)
  else (verdictP (parseR (st0 s)).1 (parseR (st0 s)).2.long, {}, 0)
def paCells (p : Pa) (v : Value) : Array Value := #[.bool p.null, v, .string (bs p.loc), .string (bs p.dom), .bool p.lit]
def ParseOut (w : World) (s : List UInt8) (e : Ending) (w' : World) : Prop := ∃ v, e = .returned (.tuple #[.agg (paCells (parseP s).2.1 v), .int .i64 (((parseP s).2.2 : Nat) : Int), .int .i64 (parseP s).1]) ∧ w'.ownsRow w.heap.size 9 1 v (parseP s).2.1.route.length ((parseP s).2.1.route.map textV) ∧ Below w.heap.size w w'
theorem infoPath : (Tryz.prog.info? 26).map (·.size) = some 5 := by kernel_rfl
theorem path_parts (m : Nat) (hm : m ≤ 1099511627776) : ∀ x ∈ [(29, nullR), (30, aloneR), (31, fullR)], Reads hopI m x.1 x.2 ∧ Ent x.1 := by
  intro x hx
  simp only [List.mem_cons, List.mem_nil_iff, or_false] at hx
  rcases hx with rfl | rfl | rfl
  · exact ⟨(null_any m).weak fun _ _ _ => trivial, ent_m_null⟩
  · exact ⟨(alone_any m).weak fun _ _ _ => trivial, ent_m_alone⟩
  · exact ⟨full_any m hm, ent_m_full⟩
theorem path_keeps : ∀ (i : Nat) (x : Nat × Rd), [(29, nullR), (30, aloneR), (31, fullR)][i]? = some x → i + 1 < 3 → ∀ s st, hopI s st → hopI s { (x.2 st).2 with rest := st.rest }
  | 0, x, h, _, s, st, hI => by
    obtain rfl : (29, nullR) = x := by simpa using h
    have := (keep_take [60, 62] st).route
    unfold hopI nullR at *
    simpa [this] using hI
  | 1, x, h, _, s, st, hI => by
    obtain rfl : (30, aloneR) = x := by simpa using h
    have h1 : (aloneR st).2.route = st.route := by
      have := (keep_take (60 :: postP ++ [62]) st).route
      unfold aloneR
      split <;> exact this
    unfold hopI at *
    simp only
    rw [h1]
    exact hI
  | i + 2, _, _, h, _, _, _ => by omega
theorem own_form {W : World} {B z n : Nat} {e : TypeId} {v : Value} {xs : List Value} (h : W.ownsRow B e z v n xs) : ∃ a c, v = .slice a n c := by
  rcases h.2 with ⟨e1, e0⟩ | ⟨g, cap, cur, e1, _⟩
  · subst e0; exact ⟨none, 0, e1⟩
  · exact ⟨_, cap, e1⟩
set_option maxRecDepth 100000 in
set_option maxHeartbeats 1000000 in
theorem parse_fun (s : List UInt8) (hs : s.length ≤ 1099511627776) (w : World) (he : ErrAt w) (hg : ErrG < w.heap.size) : Calls Tryz.prog 6 #[.string (bs s)] w (ParseOut w s) := by
  obtain ⟨W0, hW0⟩ : ∃ W0, W0 = w.alloc (.cells #[.bool false, .slice none 0 0, .string ⟨#[]⟩, .string ⟨#[]⟩, .bool false] 26) := ⟨_, rfl⟩
  have hsz : W0.heap.size = w.heap.size + 1 := by rw [hW0, World.size_alloc]
  have hb0 : Below w.heap.size w W0 := by rw [hW0]; exact (Below.refl _ w).alloc (Nat.le_refl _) _
  have hx0 : Blk W0 w.heap.size 26 #[.bool false, .slice none 0 0, .string ⟨#[]⟩, .string ⟨#[]⟩, .bool false] := by rw [hW0]; exact Blk.new _ _ _
  obtain ⟨W1, hW1⟩ : ∃ W1, W1 = W0.alloc (rdNew s) := ⟨_, rfl⟩
  have hb1 : Below W0.heap.size W0 W1 := by rw [hW1]; exact (Below.refl _ W0).alloc (Nat.le_refl _) _
  have hr : RdAt W1 (w.heap.size + 1) s (st0 s) := by
    rw [hW1, ← hsz]
    exact new_reader W0 s (by omega) (he.below hb0 hg) (Nat.lt_of_lt_of_le hg (by omega))
  have hw1 : W1.heap.size = w.heap.size + 2 := by rw [hW1, World.size_alloc, hsz]
  unfold rdNew at hW1
  rw [hW0] at hW1
  obtain ⟨r, hrr⟩ : ∃ r, r = w.heap.size + 1 := ⟨_, rfl⟩
  rw [← hrr] at hr
  have HE := Lib.hid (either_any _ (path_parts 1099511627776 (Nat.le_refl _)) path_keeps 3 rfl (by decide) (hr.alloc (.cells #[meth 29 r, meth 30 r, meth 31 r] 27)) hs (by simp [hopI, st0]) (Blk.new W1 27 #[meth 29 r, meth 30 r, meth 31 r]) 3)
  have hpe : eitherR (([(29, nullR), (30, aloneR), (31, fullR)] : List (Nat × Rd)).map (·.2)) = parseR := rfl
  rw [hpe] at HE
  have HK0 := Lib.hid ((Kp.refl r W1).alloc (.cells #[meth 29 r, meth 30 r, meth 31 r] 27) (by omega))
  unfold meth at HE HK0
  rw [hrr] at HE HK0
  have HX := Lib.hid (fun W (hk : Kp (w.heap.size + 1) W1 W) => (show Blk W w.heap.size 26 #[.bool false, .slice none 0 0, .string ⟨#[]⟩, .string ⟨#[]⟩, .bool false] from (hx0.below hb1 hx0.lt).below hk.low (Nat.lt_succ_self _)))
  have HB := Lib.hid (fun W (hk : Kp (w.heap.size + 1) W1 W) => (show Below w.heap.size w W from low_trans hb0 (hb1.trans (hsz ▸ hk.low))))
  have HBS : Hid (∀ W' i u, Below w.heap.size w W' → Below w.heap.size w (W'.setCell ⟨w.heap.size, i, none⟩ u)) := fun W' i u h => h.setCell (p := ⟨w.heap.size, i, none⟩) (Nat.le_refl _) u
  have HYES : Hid (∀ W' v p, verdictP (parseR (st0 s)).1 (parseR (st0 s)).2.long = 0 → p + (parseR (st0 s)).2.rest.length = s.length → W'.ownsRow w.heap.size 9 1 v (parseR (st0 s)).2.route.length ((parseR (st0 s)).2.route.map textV) → Below w.heap.size w W' → ParseOut w s (.returned (.tuple #[.agg #[.bool (parseR (st0 s)).2.null, v, .string (bs (parseR (st0 s)).2.loc), .string (bs (parseR (st0 s)).2.dom), .bool (parseR (st0 s)).2.lit], .int .i64 ((p : Nat) : Int), .int .i64 0])) W') := fun W' v p hv hp ho h => by
    unfold ParseOut parseP
    rw [if_pos hv]
    refine ⟨v, ?_, ho, h⟩
    simp only [paCells, paOf]
    rw [show s.length - (parseR (st0 s)).2.rest.length = p from by omega]
  have HNO : Hid (∀ W' z, verdictP (parseR (st0 s)).1 (parseR (st0 s)).2.long = z → z ≠ 0 → Below w.heap.size w W' → ParseOut w s (.returned (.tuple #[.agg #[.bool false, .slice none 0 0, .string ⟨#[]⟩, .string ⟨#[]⟩, .bool false], .int .i64 0, .int .i64 z])) W') := fun W' z hv hz h => by
    unfold ParseOut parseP
    rw [if_neg (by rw [hv]; exact hz), hv]
    exact ⟨.slice none 0 0, rfl, World.ownsRow_nil _ _ _ _, h⟩
  generalize ParseOut w s = Q at *
  have hmf : ∀ (fn : Fn) (first cap : Array Value) (w : World), (Instr.makeFunc fn first cap).run Tryz.prog w = .ok (.func fn first cap) w := fun _ _ _ _ => rfl
  have HW1 := Lib.hid hW1
  clear hr he hg hs hb0 hb1 hx0 hW0 hW1 hsz hpe hw1
  clear hrr
  by_cases hv : verdictP (parseR (st0 s)).1 (parseR (st0 s)).2.long = 0
  · have HV := Lib.hid hv
    have HO := Lib.hid (fun W' v p => HYES.out W' v p hv)
    clear hv HYES HNO
    go_enter Tryz.func6, Tryz.ntmps6
    go_upto_region 2 with (fail)
    rw [← HW1.out]
    obtain ⟨r, hr⟩ : ∃ r, r = w.heap.size + 1 := ⟨_, rfl⟩
    rw [← hr] at HE HK0 HX HB ⊢
    clear HW1
    have HGR : Hid (w.heap.size < r) := by show _ < _; omega
    obtain ⟨g0, hg0⟩ : ∃ g0, g0 = w.heap.size := ⟨_, rfl⟩
    rw [← hg0] at HX HB HO HBS HGR ⊢
    clear hr hg0
    go_upto_region 5 with (first | (go_at_call 28; refine HE.out.mono ?_; rintro e w1 ⟨rfl, h1, hkp⟩; have H1 := Lib.hid h1; have HKP1 := Lib.hid (HK0.out.trans hkp); clear h1 hkp HE) | (go_at_call 27; refine (verdict_any H1.out _).mono ?_; rintro e w2 ⟨rfl, rfl⟩; rw [HV.out]))
    have hx := HX.out w2 HKP1.out
    obtain ⟨p1, v1, hr1⟩ := H1.out
    obtain ⟨va, vc, rfl⟩ := own_form hr1.own
    have c1 := hr1.cells.cell 1
    have c2 := hr1.cells.cell 2
    have c3 := hr1.cells.cell 3
    have c4 := hr1.cells.cell 4
    have c5 := hr1.cells.cell 5
    have c6 := hr1.cells.cell 6
    simp only [rdCells] at c1 c2 c3 c4 c5 c6
    simp at c1 c2 c3 c4 c5 c6
    have x0 := hx.cell 0
    have x1 := hx.cell 1
    have x2 := hx.cell 2
    have x3 := hx.cell 3
    have x4 := hx.cell 4
    have y0 := hx.frozen 0
    have y1 := hx.frozen 1
    have y2 := hx.frozen 2
    have y3 := hx.frozen 3
    have y4 := hx.frozen 4
    simp at x0 x1 x2 x3 x4
    have HX2 := Lib.hid hx
    have HR2 := Lib.hid hr1
    clear hx hr1
    have hn1 : ¬ g0 = r := by have := HGR.out; omega
    have hn2 : ¬ r = g0 := by have := HGR.out; omega
    go_region
    have HY := Lib.hid (((((((HX2.out.set_ 0 (.bool (parseR (st0 s)).2.null)).set_ 1 (.slice va (parseR (st0 s)).2.route.length vc)).set_ 2 (.string (bs (parseR (st0 s)).2.loc))).set_ 3 (.string (bs (parseR (st0 s)).2.dom))).set_ 4 (.bool (parseR (st0 s)).2.lit))).drew)
    have HL := Lib.hid ((HBS.out _ 4 (.bool (parseR (st0 s)).2.lit) (HBS.out _ 3 (.string (bs (parseR (st0 s)).2.dom)) (HBS.out _ 2 (.string (bs (parseR (st0 s)).2.loc)) (HBS.out _ 1 (.slice va (parseR (st0 s)).2.route.length vc) (HBS.out _ 0 (.bool (parseR (st0 s)).2.null) (HB.out w2 HKP1.out))))))).drew
    have HO2 := Lib.hid ((own_set (own_set (own_set (own_set (own_set HR2.out.own HX2.out (by decide) 0 (.bool (parseR (st0 s)).2.null)) (HX2.out.set_ 0 (.bool (parseR (st0 s)).2.null)) (by decide) 1 (.slice va (parseR (st0 s)).2.route.length vc)) ((HX2.out.set_ 0 (.bool (parseR (st0 s)).2.null)).set_ 1 (.slice va (parseR (st0 s)).2.route.length vc)) (by decide) 2 (.string (bs (parseR (st0 s)).2.loc))) (((HX2.out.set_ 0 (.bool (parseR (st0 s)).2.null)).set_ 1 (.slice va (parseR (st0 s)).2.route.length vc)).set_ 2 (.string (bs (parseR (st0 s)).2.loc))) (by decide) 3 (.string (bs (parseR (st0 s)).2.dom))) ((((HX2.out.set_ 0 (.bool (parseR (st0 s)).2.null)).set_ 1 (.slice va (parseR (st0 s)).2.route.length vc)).set_ 2 (.string (bs (parseR (st0 s)).2.loc))).set_ 3 (.string (bs (parseR (st0 s)).2.dom))) (by decide) 4 (.bool (parseR (st0 s)).2.lit)))
    have HCT := Lib.hid HR2.out.count
    clear HX2 HR2 hn1 hn2 x0 x1 x2 x3 x4 y0 y1 y2 y3 y4 c1 c2 c3 c4 c5 c6
    go_wp2
    refine bodyPost_ret (results_cell_tmp2 rfl _ _ g0 26 _ (0, 0) _ rfl HY.out Tryz.underlying26 rfl infoPath) rfl ?_
    exact HO.out _ _ p1 HCT.out (ownsRow_from (ownsRow_kept HO2.out (Below.refl _ _).drew) (by have := HGR.out; omega)) HL.out
  · have hz := verdict_ne _ _ hv
    obtain ⟨z, hzz⟩ : ∃ z, z = verdictP (parseR (st0 s)).1 (parseR (st0 s)).2.long := ⟨_, rfl⟩
    have HV := Lib.hid hzz.symm
    rw [← hzz] at hz hv
    have HO := Lib.hid (fun W' => HNO.out W' z HV.out hv)
    have hzb : (z == 0) = false := by simpa using hv
    clear HYES HNO hzz hz
    go_enter Tryz.func6, Tryz.ntmps6
    go_upto_region 2 with (fail)
    rw [← HW1.out]
    obtain ⟨r, hr⟩ : ∃ r, r = w.heap.size + 1 := ⟨_, rfl⟩
    rw [← hr] at HE HK0 HX HB ⊢
    clear HW1
    have HGR : Hid (w.heap.size < r) := by show _ < _; omega
    obtain ⟨g0, hg0⟩ : ∃ g0, g0 = w.heap.size := ⟨_, rfl⟩
    rw [← hg0] at HX HB HO HBS HGR ⊢
    clear hr hg0
    go_upto_region 4 with (first | (go_at_call 28; refine HE.out.mono ?_; rintro e w1 ⟨rfl, h1, hkp⟩; have H1 := Lib.hid h1; have HKP1 := Lib.hid (HK0.out.trans hkp); clear h1 hkp HE) | (go_at_call 27; refine (verdict_any H1.out _).mono ?_; rintro e w2 ⟨rfl, rfl⟩; rw [HV.out]))
    have hx := HX.out w2 HKP1.out
    have x0 := hx.cell 0
    have x1 := hx.cell 1
    have x2 := hx.cell 2
    have x3 := hx.cell 3
    have x4 := hx.cell 4
    have y0 := hx.frozen 0
    have y1 := hx.frozen 1
    have y2 := hx.frozen 2
    have y3 := hx.frozen 3
    have y4 := hx.frozen 4
    simp at x0 x1 x2 x3 x4
    have HX2 := Lib.hid hx
    clear hx
    have HY := Lib.hid ((((((HX2.out.set_ 0 (.bool false)).set_ 1 (.slice none 0 0)).set_ 2 (.string ⟨#[]⟩)).set_ 3 (.string ⟨#[]⟩)).set_ 4 (.bool false)))
    have HL := Lib.hid ((HBS.out _ 4 (.bool false) (HBS.out _ 3 (.string ⟨#[]⟩) (HBS.out _ 2 (.string ⟨#[]⟩) (HBS.out _ 1 (.slice none 0 0) (HBS.out _ 0 (.bool false) (HB.out w2 HKP1.out)))))))
    go_wp2
    refine bodyPost_ret (results_cell_tmp2 rfl _ _ g0 26 _ (0, 0) _ rfl HY.out Tryz.underlying26 rfl infoPath) rfl ?_
    exact HO.out _ HL.out
end Go.Proofs.YtjgadocojdieeaaGreatDoor
