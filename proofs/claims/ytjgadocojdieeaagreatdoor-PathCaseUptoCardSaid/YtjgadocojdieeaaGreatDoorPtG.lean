/-
  Paths in plain terms: a whole path is read just of what a path's text is; what is right is printed so that it is read as the same. No conditions.
-/
import Derived.Test.YtjgadocojdieeaaGreatDoorPtF
namespace Go.Proofs.YtjgadocojdieeaaGreatDoor

/-- a text that is a route, or nothing -/
def RouteT (t : List UInt8) (ds : List (List UInt8)) (lg : Bool) : Prop := (t = [] ∧ ds = [] ∧ lg = false) ∨ ∃ d L, (∀ e ∈ d :: L, dB e = true) ∧ t = 64 :: (d ++ (hopsT L ++ [58])) ∧ ds = (d :: L).map low ∧ lg = ((d :: L).any dL || decide (20 < (d :: L).length))
theorem col_stop : ∀ x, Stop (58 :: x) hopStop := fun x c h => by
  obtain rfl : 58 = c := by simpa using h
  decide
theorem hop_no {st : Rs} (h : st.rest.head? ≠ some 64) : hopR st = (false, st) := by
  unfold hopR
  rw [one_no fix64 st h]
  rfl
theorem route_all {t x : List UInt8} {ds : List (List UInt8)} {lg : Bool} (h : RouteT t ds lg) (hx : x.head? ≠ some 64) (st : Rs) (hr : st.rest = t ++ x) : routeR st = (true, { st with rest := x, route := st.route ++ ds, long := st.long || lg }) := by
  rcases h with ⟨rfl, rfl, rfl⟩ | ⟨d, L, h1, rfl, rfl, rfl⟩
  · have he : eachR hopR [44] st = (0, st) := by
      unfold eachR
      rw [eachF]
      simp only [sepR, if_true, Bool.true_eq_false, if_false]
      rw [hop_no (by rw [hr]; exact hx)]
      simp
    unfold routeR
    rw [he]
    have hr' : st.rest = x := hr
    simp [limitR, ← hr']
  · have he : eachR hopR [44] st = (1 + L.length, { st with rest := 58 :: x, route := st.route ++ (d :: L).map low, long := st.long || (d :: L).any dL }) := by
      unfold eachR
      rw [eachF]
      simp only [sepR, if_true, Bool.true_eq_false, if_false]
      rw [hop_all (d := d) (x := hopsT L ++ 58 :: x) (hops_stop L (hopStop_dom (col_stop x))) (h1 d (by simp)) st (by rw [hr]; simp)]
      simp only [Bool.true_eq_false, if_false]
      rw [hops_all (col_stop x) L _ 1 _ (by omega) (fun e he => h1 e (by simp [he])) ?_ rfl]
      · simp [Bool.or_assoc]
      · have : L.length ≤ (hopsT L).length := by
          unfold hopsT
          clear h1 hr
          induction L with
          | nil => simp
          | cons e L ih => simp at ih ⊢; omega
        rw [hr]
        simp
        omega
    unfold routeR
    rw [he]
    simp only [Nat.add_eq_zero_iff, Nat.one_ne_zero, false_and, if_false]
    rw [one_yes rfl _ x rfl]
    simp [limitR, Bool.or_assoc, Nat.add_comm]
theorem eachF_many {part : Rd} {sep : List UInt8} : ∀ (f many : Nat) (st : Rs), many ≤ (eachF part sep f many st).1
  | 0, _, _ => Nat.le_refl _
  | f + 1, many, st => by
    rw [eachF]
    split
    · exact Nat.le_refl _
    · split
      · exact Nat.le_refl _
      · exact Nat.le_trans (Nat.le_succ _) (eachF_many f (many + 1) _)
theorem route_some {st st' : Rs} (h : routeR st = (true, st')) (hx : st'.rest.head? ≠ some 64) : ∃ t ds lg, RouteT t ds lg ∧ st.rest = t ++ st'.rest ∧ st'.null = st.null ∧ st'.route = st.route ++ ds ∧ st'.loc = st.loc ∧ st'.dom = st.dom ∧ st'.lit = st.lit ∧ (st'.long = (st.long || lg)) := by
  unfold routeR at h
  split at h
  · rename_i h0
    have h1 : (hopR st).1 = false := by
      cases hp : (hopR st).1 with
      | false => rfl
      | true =>
        exfalso
        unfold eachR at h0
        rw [eachF] at h0
        simp only [sepR, if_true, Bool.true_eq_false, if_false, hp] at h0
        have := eachF_many (part := hopR) (sep := [44]) (st.rest.length + 1) (0 + 1) (hopR st).2
        omega
    have he : eachR hopR [44] st = (0, { (hopR st).2 with rest := st.rest }) := by
      unfold eachR
      rw [eachF]
      simp only [sepR, if_true, Bool.true_eq_false, if_false, h1]
    rw [he] at h
    injection h with _ h
    subst h
    have h64 : st.rest.head? ≠ some 64 := hx
    rw [hop_no h64]
    exact ⟨[], [], false, .inl ⟨rfl, rfl, rfl⟩, rfl, rfl, by simp [limitR], rfl, rfl, rfl, by simp [limitR]⟩
  · rename_i h0
    obtain ⟨x, e1, e2⟩ := one_some fix58 (by rw [h])
    rw [e2] at h
    injection h with _ h
    have h1 : (hopR st).1 = true := each_first (sep := [44]) (Nat.pos_of_ne_zero h0)
    have he : eachR hopR [44] st = eachF hopR [44] (st.rest.length + 1) 1 (hopR st).2 := by
      unfold eachR
      rw [eachF]
      simp only [sepR, if_true, Bool.true_eq_false, if_false, h1, Nat.zero_add]
    have hlen : (hopR st).2.rest.length ≤ st.rest.length := (suf_hop st).length_le
    have hst : Stop (eachF hopR [44] (st.rest.length + 1) 1 (hopR st).2).2.rest hopStop := by
      rw [← he]
      have : (eachR hopR [44] st).2.rest = 58 :: x := e1
      rw [this]
      exact col_stop x
    obtain ⟨L, k1, k2, k3, k4⟩ := hops_some _ 1 (hopR st).2 (by omega) (by omega) hst
    obtain ⟨d, m1, m2, m3⟩ := hop_some h1 (by rw [k2]; exact hops_stop L (hopStop_dom hst))
    rw [← he] at k2 k3 k4
    have hr1 : (eachR hopR [44] st).2.rest = 58 :: x := e1
    rw [hr1] at k2
    have hk := k4
    rw [m3] at hk
    subst h
    refine ⟨64 :: (d ++ (hopsT L ++ [58])), (d :: L).map low, _, .inr ⟨d, L, ?_, rfl, rfl, rfl⟩, ?_, ?_⟩
    · intro e he
      rcases List.mem_cons.1 he with rfl | he
      · exact m1
      · exact k1 e he
    · rw [m2, k2]
      simp
    · simp only [limitR]
      rw [hk, k3]
      refine ⟨rfl, by simp, rfl, rfl, rfl, ?_⟩
      simp [Bool.or_assoc, Nat.add_comm]

/-- what is told of a path -/
structure Pa where
  null : Bool := false
  route : List (List UInt8) := []
  loc : List UInt8 := []
  dom : List UInt8 := []
  lit : Bool := false
deriving DecidableEq
def paOf (st : Rs) : Pa := ⟨st.null, st.route, st.loc, st.dom, st.lit⟩
def withP (_st : Rs) (p : Pa) (r : List UInt8) (lg : Bool) : Rs := ⟨r, p.null, p.route, p.loc, p.dom, p.lit, lg⟩
def aloneT : List UInt8 := 60 :: postP ++ [62]
/-- a text that is a path; what is told of it; whether it is beyond the limits -/
def PathT (t : List UInt8) (p : Pa) (lg : Bool) : Prop :=
  (t = [60, 62] ∧ p = { null := true } ∧ lg = false) ∨ (low t = aloneT ∧ p = { loc := postP } ∧ lg = false) ∨
  ∃ rt ds l1 bt loc d lit l2, RouteT rt ds l1 ∧ BoxT bt loc d lit l2 ∧ t = 60 :: (rt ++ (bt ++ [62])) ∧ p = ⟨false, ds, loc, d, lit⟩ ∧ lg = (l1 || l2)
theorem gt_stop : ∀ x, Stop (62 :: x) domStop := fun x c h => by
  obtain rfl : 62 = c := by simpa using h
  decide
theorem loc_head {t m : List UInt8} (h : LocT t m) : ∃ c r, t = c :: r ∧ (c = 34 ∨ atmB c = true) := by
  rcases h with ⟨h1, _⟩ | ⟨ps, _, rfl, _⟩
  · obtain ⟨c, r, h2, h3⟩ := aB_head h1; exact ⟨c, r, h2, .inr h3⟩
  · exact ⟨34, _, rfl, .inl rfl⟩
theorem box_head {t loc d : List UInt8} {lit lg : Bool} (h : BoxT t loc d lit lg) : ∃ c r, t = c :: r ∧ (c = 34 ∨ atmB c = true) := by
  obtain ⟨l, u, g, h1, _, rfl, _⟩ := h
  obtain ⟨c, r, rfl, h2⟩ := loc_head h1
  exact ⟨c, r ++ 64 :: u, rfl, h2⟩
/-- atoms are of atoms' bytes, and dots -/
theorem atoms_bytes : ∀ (f many : Nat) (st : Rs), ∃ l, st.rest = l ++ (eachF atomR [46] f many st).2.rest ∧ ∀ c ∈ l, atmB c = true ∨ c = 46
  | 0, _, st => ⟨[], rfl, by simp⟩
  | f + 1, many, st => by
    rw [eachF]
    have hs : ∃ l, st.rest = l ++ (sepR [46] many st).2.rest ∧ ∀ c ∈ l, c = 46 := by
      unfold sepR
      split
      · exact ⟨[], rfl, by simp⟩
      · cases ht : (takeR [46] st).1 with
        | true =>
          have fix46 : ∀ e, sml e = 46 → e = 46 := all_u8 (by decide +kernel)
          obtain ⟨x, h1, h2⟩ := one_some fix46 ht
          exact ⟨[46], by rw [h2]; exact h1, by simp⟩
        | false => exact ⟨[], by rw [takeR_no _ _ ht]; rfl, by simp⟩
    split
    · exact ⟨[], rfl, by simp⟩
    · split
      · exact ⟨[], rfl, by simp⟩
      · obtain ⟨l1, h1, h2⟩ := hs
        obtain ⟨l2, h3, h4⟩ := atoms_bytes f (many + 1) (atomR (sepR [46] many st).2).2
        refine ⟨l1 ++ ((sepR [46] many st).2.rest.takeWhile atmB ++ l2), ?_, ?_⟩
        · rw [List.append_assoc, List.append_assoc, ← h3]
          conv => lhs; rw [h1]
          show l1 ++ (sepR [46] many st).2.rest = l1 ++ ((sepR [46] many st).2.rest.takeWhile atmB ++ (sepR [46] many st).2.rest.dropWhile atmB)
          rw [List.takeWhile_append_dropWhile]
        · intro c hc
          rcases List.mem_append.1 hc with hc | hc
          · exact .inr (h2 c hc)
          · rcases List.mem_append.1 hc with hc | hc
            · exact .inl (mem_run hc)
            · exact h4 c hc
theorem aB_bytes {l : List UInt8} (h : aB l = true) : ∀ c ∈ l, atmB c = true ∨ c = 46 := by
  obtain ⟨_, h2⟩ := allB_iff.1 h
  obtain ⟨m, h3, h4⟩ := atoms_bytes (l.length + 2) 0 (st0 l)
  have : (eachF atomR [46] (l.length + 2) 0 (st0 l)).2.rest = [] := h2
  rw [this, List.append_nil] at h3
  rw [show l = m from h3]
  exact h4
theorem alone_bytes : ∀ c, c ∈ aloneT → c = 60 ∨ c = 62 ∨ (97 ≤ c ∧ c ≤ 122) := all_u8 (by decide +kernel)
/-- a path that has a mailbox is not that of postmaster alone -/
theorem full_not_alone {rt bt loc d x : List UInt8} {ds : List (List UInt8)} {lit l1 l2 : Bool} (h1 : RouteT rt ds l1) (h2 : BoxT bt loc d lit l2) (st : Rs) (hr : st.rest = 60 :: (rt ++ (bt ++ x))) : takeR aloneT st = (false, st) := by
  refine take_fail ?_
  cases ht : (takeR aloneT st).1 with
  | false => rfl
  | true =>
    exfalso
    obtain ⟨a, ha, hb, _⟩ := take_some ht
    rw [hr] at hb
    have hlen : a.length = 12 := by rw [← low_len, ha]; rfl
    have hat : ∀ i, i < 12 → (low (60 :: (rt ++ (bt ++ x))))[i]? = aloneT[i]? := by
      intro i hi
      rw [hb, low_app, List.getElem?_append_left (by rw [low_len]; omega), ha]
    rcases h1 with ⟨rfl, _, _⟩ | ⟨e, L, _, rfl, _, _⟩
    · obtain ⟨l, u, g, h3, _, rfl, _⟩ := h2
      rcases h3 with ⟨h3, _⟩ | ⟨ps, _, rfl, _⟩
      · have hab := aB_bytes h3
        simp only [List.nil_append] at hat
        by_cases hl : l.length + 1 < 12
        · have := hat (l.length + 1) hl
          unfold low at this
          rw [List.getElem?_map, List.getElem?_cons_succ, List.append_assoc, List.getElem?_append_right (Nat.le_refl _), Nat.sub_self] at this
          simp only [List.cons_append, List.getElem?_cons_zero, Option.map_some] at this
          have hm := List.mem_of_getElem? this.symm
          exact absurd (alone_bytes _ hm) (by decide)
        · have := hat 11 (by omega)
          unfold low at this
          rw [List.getElem?_map, List.getElem?_cons_succ, List.append_assoc, List.getElem?_append_left (by omega)] at this
          have hm : l[10]? = some (l[10]'(by omega)) := List.getElem?_eq_getElem (by omega)
          rw [hm] at this
          have h62 : sml (l[10]'(by omega)) = 62 := by simpa [aloneT, postP] using this
          have := hab _ (List.getElem_mem (by omega : 10 < l.length))
          rw [fix62 _ h62] at this
          revert this
          decide
      · have := hat 1 (by omega)
        simp [low, aloneT, postP] at this
        revert this
        decide
    · have := hat 1 (by omega)
      simp [low, aloneT, postP] at this
      revert this
      decide
theorem null_no {st : Rs} (hn : st.null = false) {c : UInt8} {r : List UInt8} (h : st.rest = 60 :: c :: r) (hc : c ≠ 62) : nullR st = (false, st) := by
  have : takeR [60, 62] st = (false, st) := by
    refine take_fail ?_
    cases ht : (takeR [60, 62] st).1 with
    | false => rfl
    | true =>
      exfalso
      obtain ⟨a, ha, hb, _⟩ := take_some ht
      rw [h] at hb
      match a, ha, hb with
      | [], ha, _ => simp [low] at ha
      | [_], ha, _ => simp [low] at ha
      | a :: b :: _, ha, hb =>
        simp only [low, List.map_cons, List.cons.injEq] at ha
        injection hb with _ hb
        injection hb with hb _
        rw [← hb] at ha
        exact hc (fix62 _ ha.2.1)
  unfold nullR
  rw [this]
  simp only
  rw [← hn]
theorem alone_no {st : Rs} (h : takeR aloneT st = (false, st)) : aloneR st = (false, st) := by
  unfold aloneR
  unfold aloneT at h
  rw [h]
  rfl
/-- what a path's text is, is read -/
theorem parse_all {t x : List UInt8} {p : Pa} {lg : Bool} (h : PathT t p lg) : parseR (st0 (t ++ x)) = (true, withP (st0 []) p x lg) := by
  rcases h with ⟨rfl, rfl, rfl⟩ | ⟨h1, rfl, rfl⟩ | ⟨rt, ds, l1, bt, loc, d, lit, l2, h1, h2, rfl, rfl, rfl⟩
  · have : nullR (st0 ([60, 62] ++ x)) = (true, withP (st0 []) { null := true } x false) := by
      unfold nullR
      rw [take_all (l := [60, 62]) (x := x) (by decide) (st0 ([60, 62] ++ x)) rfl]
      rfl
    unfold parseR
    rw [eitherR, this]
    rfl
  · have hal : takeR aloneT (st0 (t ++ x)) = (true, st0 x) := take_all h1 _ rfl
    obtain ⟨c, r, hc, hne⟩ : ∃ c r, t = 60 :: c :: r ∧ c ≠ 62 := by
      match t, h1 with
      | [], h1 => simp [low, aloneT] at h1
      | [_], h1 => simp [low, aloneT, postP] at h1
      | a :: b :: r, h1 =>
        simp only [low, List.map_cons, aloneT, postP, List.cons_append, List.cons.injEq] at h1
        refine ⟨b, r, by rw [fix60 _ h1.1], ?_⟩
        rintro rfl
        exact absurd h1.2.1 (by decide)
    unfold parseR
    rw [eitherR, null_no (c := c) (r := r ++ x) rfl (by rw [hc]; rfl) hne]
    simp only [Bool.false_eq_true, if_false]
    rw [eitherR]
    have : aloneR (st0 (t ++ x)) = (true, withP (st0 []) { loc := postP } x false) := by
      unfold aloneR
      unfold aloneT at hal
      rw [hal]
      rfl
    rw [show ({ st0 (t ++ x) with rest := (st0 (t ++ x)).rest } : Rs) = st0 (t ++ x) from rfl, this]
    rfl
  · have hr : (st0 (60 :: (rt ++ (bt ++ [62])) ++ x)).rest = 60 :: (rt ++ (bt ++ 62 :: x)) := by simp [st0]
    obtain ⟨c, r, hc, hne⟩ : ∃ c r, (rt ++ (bt ++ 62 :: x)) = c :: r ∧ c ≠ 62 := by
      rcases h1 with ⟨rfl, _, _⟩ | ⟨e, L, _, rfl, _, _⟩
      · obtain ⟨c, r, rfl, h3⟩ := box_head h2
        refine ⟨c, _, rfl, ?_⟩
        rintro rfl
        rcases h3 with h3 | h3
        · exact absurd h3 (by decide)
        · revert h3; decide
      · exact ⟨64, _, rfl, by decide⟩
    have ha := full_not_alone (x := 62 :: x) h1 h2 _ hr
    unfold parseR
    rw [eitherR, null_no rfl (by rw [hr, hc]) hne]
    simp only [Bool.false_eq_true, if_false]
    rw [eitherR]
    rw [show ({ st0 (60 :: (rt ++ (bt ++ [62])) ++ x) with rest := (st0 (60 :: (rt ++ (bt ++ [62])) ++ x)).rest } : Rs) = st0 (60 :: (rt ++ (bt ++ [62])) ++ x) from rfl]
    rw [alone_no ha]
    simp only [Bool.false_eq_true, if_false]
    rw [eitherR]
    have hf : fullR (st0 (60 :: (rt ++ (bt ++ [62])) ++ x)) = (true, ⟨x, false, ds, loc, d, lit, l1 || l2⟩) := by
      unfold fullR andR
      rw [one_yes rfl _ _ hr]
      simp only [if_true]
      have hb64 : (bt ++ 62 :: x).head? ≠ some 64 := by
        obtain ⟨c, r, rfl, h3⟩ := box_head h2
        intro e
        obtain rfl : c = 64 := by simpa using e
        rcases h3 with h3 | h3
        · exact absurd h3 (by decide)
        · revert h3; decide
      rw [route_all h1 hb64 _ rfl]
      simp only [if_true]
      rw [box_all (x := 62 :: x) h2 (gt_stop x) _ rfl rfl]
      simp only [if_true]
      rw [one_yes rfl _ x rfl]
      simp [st0]
    rw [show ({ st0 (60 :: (rt ++ (bt ++ [62])) ++ x) with rest := (st0 (60 :: (rt ++ (bt ++ [62])) ++ x)).rest } : Rs) = st0 (60 :: (rt ++ (bt ++ [62])) ++ x) from rfl]
    rw [hf]
    rfl
theorem either_some : ∀ {ps : List Rd} {st st' : Rs}, eitherR ps st = (true, st') → (∀ p ∈ ps, ∀ s, (p s).1 = false → s.null = false → { (p s).2 with rest := s.rest } = s) → st.null = false → ∃ p ∈ ps, p st = (true, st')
  | [], _, _, h, _, _ => by rw [eitherR] at h; cases h
  | p :: ps, st, st', h, hk, hn => by
    rw [eitherR] at h
    split at h
    · exact ⟨p, by simp, h⟩
    · rename_i hp
      rw [hk p (by simp) st (by simpa using hp) hn] at h
      obtain ⟨q, hq, h2⟩ := either_some h (fun q hq => hk q (by simp [hq])) hn
      exact ⟨q, by simp [hq], h2⟩
theorem mailbox_head {st : Rs} (h : (mailboxR st).1 = true) : st.rest.head? ≠ some 64 := by
  unfold mailboxR at h
  obtain ⟨h1, _⟩ := and_some (st' := (mailboxR st).2) (Prod.ext h rfl)
  intro e
  have hq : quotedR st = (false, st) := by
    unfold quotedR
    rw [one_no fix34 st (by rw [e]; decide)]
    rfl
  rw [eitherR, hq] at h1
  simp only [Bool.false_eq_true, if_false] at h1
  rw [eitherR] at h1
  split at h1
  · rename_i h2
    obtain ⟨c, r, h3, h4⟩ := atoms_head (st := st) h2
    rw [h3] at e
    obtain rfl : c = 64 := by simpa using e
    revert h4
    decide
  · rw [eitherR] at h1; cases h1
/-- what is read is a path's text, and what is told of it -/
theorem parse_some {s : List UInt8} {st' : Rs} (h : parseR (st0 s) = (true, st')) : ∃ t p lg, PathT t p lg ∧ s = t ++ st'.rest ∧ st' = withP (st0 []) p st'.rest lg := by
  unfold parseR at h
  rw [eitherR] at h
  split at h
  · rename_i h1
    unfold nullR at h h1
    simp only at h h1
    obtain ⟨l, h2, h3, h4⟩ := take_some h1
    injection h with _ h
    have hl : l = [60, 62] := by
      match l, h2 with
      | [], h2 => simp [low] at h2
      | [_], h2 => simp [low] at h2
      | [a, b], h2 =>
        simp only [low, List.map_cons, List.map_nil, List.cons.injEq, and_true] at h2
        rw [fix60 _ h2.1, fix62 _ h2.2]
      | _ :: _ :: _ :: _, h2 => simp [low] at h2
    subst hl
    refine ⟨[60, 62], _, _, .inl ⟨rfl, rfl, rfl⟩, ?_, ?_⟩
    · rw [← h]; exact h3
    · rw [← h, h1, h4]; rfl
  · rename_i h1
    have hn : nullR (st0 s) = (false, st0 s) := by
      unfold nullR at h1 ⊢
      simp only [Bool.not_eq_true] at h1 ⊢
      rw [take_fail h1]
      rfl
    rw [hn, eitherR] at h
    rw [show ({ (false, st0 s).2 with rest := (st0 s).rest } : Rs) = st0 s from rfl] at h
    split at h
    · rename_i h2
      unfold aloneR at h h2
      cases ht : (takeR (60 :: postP ++ [62]) (st0 s)).1 with
      | false => rw [if_neg (by rw [ht]; decide)] at h2; cases h2
      | true =>
        rw [if_pos ht] at h
        obtain ⟨l, h3, h4, h5⟩ := take_some ht
        injection h with _ h
        refine ⟨l, _, _, .inr (.inl ⟨h3, rfl, rfl⟩), ?_, ?_⟩
        · rw [← h]; exact h4
        · rw [← h, h5]; rfl
    · rename_i h2
      have ha : aloneR (st0 s) = (false, st0 s) := by
        unfold aloneR at h2 ⊢
        cases ht : (takeR (60 :: postP ++ [62]) (st0 s)).1 with
        | false => rw [take_fail ht]; rfl
        | true => rw [if_pos ht] at h2; exact absurd rfl h2
      rw [ha, eitherR] at h
      rw [show ({ (false, st0 s).2 with rest := (st0 s).rest } : Rs) = st0 s from rfl] at h
      split at h
      · unfold fullR at h
        obtain ⟨k1, h⟩ := and_some h
        obtain ⟨k2, h⟩ := and_some h
        obtain ⟨k3, h⟩ := and_some h
        obtain ⟨x, e1, e2⟩ := one_some fix60 k1
        rw [e2] at k2 k3 h
        simp only at k2 k3 h
        obtain ⟨y, e3, e4⟩ := one_some fix62 (by rw [h])
        obtain ⟨rt, ds, l1, m1, m2, m3, m4, m5, m6, m7, m8⟩ := route_some (st' := (routeR { st0 s with rest := x }).2) (Prod.ext k2 rfl) (mailbox_head k3)
        obtain ⟨bt, loc, d, lit, l2, n1, n2, n3⟩ := box_some (st' := (mailboxR (routeR { st0 s with rest := x }).2).2) (Prod.ext k3 rfl) (by rw [e3]; exact gt_stop y) m7
        rw [h] at e4
        injection e4 with _ e4
        have e5 : st'.rest = y := by rw [e4]
        rw [e3] at n2 n3
        refine ⟨60 :: (rt ++ (bt ++ [62])), _, _, .inr (.inr ⟨rt, ds, l1, bt, loc, d, lit, l2, m1, n1, rfl, rfl, rfl⟩), ?_, ?_⟩
        · rw [e5]
          have : s = 60 :: x := e1
          rw [this]
          simp only at m2
          rw [m2, n2]
          simp
        · rw [e4, n3, m3, m4, m8]
          rfl
      · rw [eitherR] at h; cases h
end Go.Proofs.YtjgadocojdieeaaGreatDoor
