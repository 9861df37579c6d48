/-
  Letters of domains and of a literal's words, great or small: a text says the same path; where the last @ stands. No conditions.
-/
import Derived.Test.YtjgadocojdieeaaGreatDoorPtZg
import Derived.Lib.LastIndexByte
namespace Go.Proofs.YtjgadocojdieeaaGreatDoor
open Go.RowKit Go.Shelf

theorem sml_64 : ∀ c, sml c = 64 → c = 64 := all_u8 (by decide +kernel)
theorem sml_58 : ∀ c, sml c = 58 → c = 58 := all_u8 (by decide +kernel)
theorem sml_44 : ∀ c, sml c = 44 → c = 44 := all_u8 (by decide +kernel)
theorem sml_91 : ∀ c, sml c = 91 → c = 91 := all_u8 (by decide +kernel)
theorem sml_93 : ∀ c, sml c = 93 → c = 93 := all_u8 (by decide +kernel)
theorem low_cons {t : List UInt8} {c : UInt8} {l : List UInt8} (h : low t = c :: l) (hc : ∀ x, sml x = c → x = c) : ∃ r, t = c :: r ∧ low r = l := by
  cases t with
  | nil => simp [low] at h
  | cons x r =>
    unfold low at h
    rw [List.map_cons] at h
    injection h with h1 h2
    exact ⟨r, by rw [hc x h1], h2⟩
theorem low_parts {t a b : List UInt8} (h : low t = a ++ b) : ∃ x y, t = x ++ y ∧ low x = a ∧ low y = b := by
  obtain ⟨x, y, h1, h2, h3⟩ := List.map_eq_append_iff.1 h
  exact ⟨x, y, h1, h2, h3⟩
theorem low_last {t : List UInt8} {c : UInt8} (h : low t = [c]) (hc : ∀ x, sml x = c → x = c) : t = [c] := by
  obtain ⟨r, rfl, h2⟩ := low_cons h hc
  have : r = [] := List.map_eq_nil_iff.1 h2
  rw [this]
theorem hops_same (L : List (List UInt8)) : ∀ h, low h = low (hopsT L) → ∃ L', h = hopsT L' ∧ L'.map low = L.map low ∧ L'.all dB = L.all dB ∧ L'.any dL = L.any dL := by
  induction L with
  | nil =>
    intro h e
    have : h = [] := List.map_eq_nil_iff.1 e
    exact ⟨[], this, rfl, rfl, rfl⟩
  | cons d L ih =>
    intro h e
    have e1 : low (hopsT (d :: L)) = 44 :: 64 :: (low d ++ low (hopsT L)) := by
      unfold hopsT
      rw [List.flatMap_cons, low_app]
      rfl
    rw [e1] at e
    obtain ⟨r, rfl, e2⟩ := low_cons e sml_44
    obtain ⟨r2, rfl, e3⟩ := low_cons e2 sml_64
    obtain ⟨x, y, rfl, e4, e5⟩ := low_parts e3
    obtain ⟨L', rfl, k1, k2, k3⟩ := ih y e5
    obtain ⟨q1, q2⟩ := dom_all_low e4
    refine ⟨x :: L', ?_, ?_, ?_, ?_⟩
    · simp [hopsT]
    · rw [List.map_cons, List.map_cons, k1, e4]
    · rw [List.all_cons, List.all_cons, k2, q1]
    · rw [List.any_cons, List.any_cons, k3, q2]
theorem route_low {t t' : List UInt8} {ds : List (List UInt8)} {lg : Bool} (h : RouteT t ds lg) (e : low t' = low t) : RouteT t' ds lg := by
  rcases h with ⟨rfl, rfl, rfl⟩ | ⟨d, L, h1, rfl, rfl, rfl⟩
  · have : t' = [] := List.map_eq_nil_iff.1 e
    exact .inl ⟨this, rfl, rfl⟩
  · have e1 : low (64 :: (d ++ (hopsT L ++ [58]))) = 64 :: (low d ++ (low (hopsT L) ++ [58])) := by
      have : low (64 :: (d ++ (hopsT L ++ [58]))) = 64 :: low (d ++ (hopsT L ++ [58])) := rfl
      rw [this, low_app, low_app]
      rfl
    rw [e1] at e
    obtain ⟨r, rfl, e2⟩ := low_cons e sml_64
    obtain ⟨x, y, rfl, e3, e4⟩ := low_parts e2
    obtain ⟨u, v, rfl, e5, e6⟩ := low_parts e4
    rw [low_last e6 sml_58]
    obtain ⟨L', rfl, k1, k2, k3⟩ := hops_same L u e5
    obtain ⟨q1, q2⟩ := dom_all_low e3
    refine .inr ⟨x, L', ?_, rfl, ?_, ?_⟩
    · have ha : (x :: L').all dB = true := by
        rw [List.all_cons, k2, q1, ← List.all_cons, List.all_eq_true]
        exact h1
      exact fun e he => List.all_eq_true.1 ha e he
    · rw [List.map_cons, List.map_cons, k1, e3]
    · have hl : L'.length = L.length := by have := congrArg List.length k1; simpa using this
      rw [List.any_cons, List.any_cons, k3, q2, List.length_cons, List.length_cons, hl]
theorem dom_low {t t' d : List UInt8} {lit lg : Bool} (h : DomT t d lit lg) (e : low t' = low t) : DomT t' d lit lg := by
  rcases h with ⟨rfl, h2, h3, h4⟩ | ⟨rfl, h2, w, h3, rfl, h5⟩
  · obtain ⟨q1, q2⟩ := dom_all_low e
    exact .inl ⟨rfl, q1.trans h2, by rw [e]; exact h3, by rw [q2]; exact h4⟩
  · have e1 : low (91 :: (w ++ [93])) = 91 :: (low w ++ [93]) := by
      have : low (91 :: (w ++ [93])) = 91 :: low (w ++ [93]) := rfl
      rw [this, low_app]
      rfl
    rw [e1] at e
    obtain ⟨r, rfl, e2⟩ := low_cons e sml_91
    obtain ⟨x, y, rfl, e3, e4⟩ := low_parts e2
    rw [low_last e4 sml_93]
    exact .inr ⟨rfl, h2, x, (words_all_low e3).trans h3, rfl, by rw [e3]; exact h5⟩
theorem dom_print {loc d : List UInt8} {lit : Bool} (h : rightBoxD loc d lit = true) : LocT (locD loc) loc ∧ DomT (domD d lit) d lit false := by
  unfold rightBoxD at h
  simp only [Bool.and_eq_true, Bool.not_eq_true'] at h
  refine ⟨loc_print h.1.2, ?_⟩
  have h2 := h.2
  unfold domD
  cases lit with
  | true =>
    rw [if_pos rfl] at h2 ⊢
    unfold toldB at h2
    simp only [Bool.and_eq_true, decide_eq_true_eq] at h2
    exact .inr ⟨rfl, rfl, d, h2.1, rfl, h2.2⟩
  | false =>
    rw [if_neg (by decide)] at h2 ⊢
    unfold toldB fineB at h2
    simp only [Bool.and_eq_true, decide_eq_true_eq, Bool.not_eq_true'] at h2
    exact .inl ⟨rfl, h2.1.1, h2.2, h2.1.2.symm⟩
/-- of a path that is right and has a domain: its text with letters of the route and of the domain turned says it -/
theorem path_turned {p : Pa} (h : rightD p = true) (hn : p.null = false) (ha : aloneB p = false) {rt u : List UInt8} (h1 : low rt = low (routeD p.route)) (h2 : low u = low (domD p.dom p.lit)) : PathT (60 :: (rt ++ ((locD p.loc ++ 64 :: u) ++ [62]))) p false := by
  unfold rightD at h
  rw [if_neg (by rw [hn]; decide), if_neg (by rw [ha]; decide)] at h
  simp only [Bool.and_eq_true, decide_eq_true_eq] at h
  obtain ⟨⟨k1, k2⟩, k3⟩ := h
  obtain ⟨q1, q2⟩ := dom_print k3
  refine .inr (.inr ⟨rt, p.route, false, locD p.loc ++ 64 :: u, p.loc, p.dom, p.lit, false, route_low (route_print k1 k2) h1, ⟨locD p.loc, u, false, q1, dom_low q2 h2, rfl, ?_⟩, rfl, ?_, rfl⟩)
  · rw [decide_eq_false (by have := rightBox_loc k3; omega)]; rfl
  · cases p
    simp_all
/-- no byte that is read is an @ -/
def NoAt (g : Rd) : Prop := ∀ st, ∃ u, ((g st).1 = true → st.rest = u ++ (g st).2.rest) ∧ ∀ c ∈ u, c ≠ 64
theorem noat_run (p : UInt8 → Bool) (hp : p 64 = false) (st : Rs) : st.rest = runL p st ++ (runR p st).rest ∧ ∀ c ∈ runL p st, c ≠ 64 := by
  unfold runL runR
  refine ⟨(List.takeWhile_append_dropWhile ..).symm, fun c hc e => ?_⟩
  have h1 : p c = true := by
    have := List.all_takeWhile (p := p) (l := st.rest)
    exact List.all_eq_true.1 this c hc
  rw [e, hp] at h1
  cases h1
theorem noat_take (w : List UInt8) (hw : ∀ c ∈ w, c ≠ 64) (st : Rs) : ∃ u, st.rest = u ++ (takeR w st).2.rest ∧ ∀ c ∈ u, c ≠ 64 := by
  unfold takeR
  split
  · rename_i h
    refine ⟨st.rest.take w.length, (List.take_append_drop ..).symm, fun c hc e => ?_⟩
    have : sml c ∈ low (st.rest.take w.length) := List.mem_map_of_mem hc
    rw [h, e] at this
    exact hw _ this rfl
  · exact ⟨[], rfl, fun c hc => by cases hc⟩
theorem noat_each {part : Rd} (hp : NoAt part) (sep : List UInt8) (hs : ∀ c ∈ sep, c ≠ 64) : ∀ (f many : Nat) (st : Rs), ∃ u, st.rest = u ++ (eachF part sep f many st).2.rest ∧ ∀ c ∈ u, c ≠ 64 := by
  intro f
  induction f with
  | zero => intro many st; exact ⟨[], rfl, fun c hc => by cases hc⟩
  | succ f ih =>
    intro many st
    rw [eachF]
    split
    · exact ⟨[], rfl, fun c hc => by cases hc⟩
    · split
      · exact ⟨[], rfl, fun c hc => by cases hc⟩
      · rename_i h1 h2
        obtain ⟨u1, e1, k1⟩ : ∃ u, st.rest = u ++ (sepR sep many st).2.rest ∧ ∀ c ∈ u, c ≠ 64 := by
          unfold sepR
          split
          · exact ⟨[], rfl, fun c hc => by cases hc⟩
          · exact noat_take sep hs st
        obtain ⟨u2, e2, k2⟩ := hp (sepR sep many st).2
        obtain ⟨u3, e3, k3⟩ := ih (many + 1) (part (sepR sep many st).2).2
        refine ⟨u1 ++ (u2 ++ u3), ?_, fun c hc => ?_⟩
        · rw [e1, e2 (by simpa using h2), List.append_assoc, List.append_assoc]
          congr 2
        · rcases List.mem_append.1 hc with hc | hc
          · exact k1 c hc
          · rcases List.mem_append.1 hc with hc | hc
            · exact k2 c hc
            · exact k3 c hc
theorem noat_label : NoAt labelR := fun st => ⟨runL labB st, fun _ => (noat_run labB (by decide) st).1, (noat_run labB (by decide) st).2⟩
theorem noat_number : NoAt numberR := fun st => ⟨runL digB st, fun _ => (noat_run digB (by decide) st).1, (noat_run digB (by decide) st).2⟩
theorem noat_group : NoAt groupR := fun st => ⟨runL hexB st, fun _ => (noat_run hexB (by decide) st).1, (noat_run hexB (by decide) st).2⟩
theorem noat_dom {l : List UInt8} (h : dB l = true) : ∀ c ∈ l, c ≠ 64 := by
  obtain ⟨_, h3⟩ := allB_iff.1 h
  obtain ⟨u, e, k⟩ := noat_each noat_label [46] (by decide) ((st0 l).rest.length + 2) 0 (st0 l)
  have e2 : (eachF labelR [46] ((st0 l).rest.length + 2) 0 (st0 l)).2.rest = [] := h3
  rw [e2, List.append_nil] at e
  have e1 : (st0 l).rest = l := rfl
  rw [e1] at e
  rw [e]
  exact k
theorem noat_words {l : List UInt8} (h : wB l = true) : ∀ c ∈ l, c ≠ 64 := by
  obtain ⟨_, h3⟩ := allB_iff.1 h
  obtain ⟨u0, e0, k0⟩ := noat_take ipv6P (by decide) (st0 l)
  have e1 : (st0 l).rest = l := rfl
  rw [e1] at e0
  suffices hs : ∃ u, (takeR ipv6P (st0 l)).2.rest = u ∧ ∀ c ∈ u, c ≠ 64 by
    obtain ⟨u, e, k⟩ := hs
    rw [e0, e]
    intro c hc
    rcases List.mem_append.1 hc with hc | hc
    · exact k0 c hc
    · exact k c hc
  unfold wordsR at h3
  generalize (takeR ipv6P (st0 l)) = z at *
  split at h3
  · unfold addressR at h3
    obtain ⟨u1, e2, k1⟩ := noat_each noat_group [58] (by decide) (z.2.rest.length + 2) 0 z.2
    change z.2.rest = u1 ++ (eachR groupR [58] z.2).2.rest at e2
    obtain ⟨u2, e3, k2⟩ := noat_take [58, 58] (by decide) (eachR groupR [58] z.2).2
    split at h3
    · simp only at h3
      rw [h3, List.append_nil] at e3
      refine ⟨_, rfl, ?_⟩
      rw [e2, e3]
      intro c hc
      rcases List.mem_append.1 hc with hc | hc
      · exact k1 c hc
      · exact k2 c hc
    · simp only at h3
      obtain ⟨u3, e4, k3⟩ := noat_each noat_group [58] (by decide) ((takeR [58, 58] (eachR groupR [58] z.2).2).2.rest.length + 2) 0 (takeR [58, 58] (eachR groupR [58] z.2).2).2
      change (takeR [58, 58] (eachR groupR [58] z.2).2).2.rest = u3 ++ (eachR groupR [58] (takeR [58, 58] (eachR groupR [58] z.2).2).2).2.rest at e4
      rw [h3, List.append_nil] at e4
      refine ⟨_, rfl, ?_⟩
      rw [e2, e3, e4]
      intro c hc
      rcases List.mem_append.1 hc with hc | hc
      · exact k1 c hc
      · rcases List.mem_append.1 hc with hc | hc
        · exact k2 c hc
        · exact k3 c hc
  · unfold numbersR at h3
    obtain ⟨u1, e2, k1⟩ := noat_each noat_number [46] (by decide) (z.2.rest.length + 2) 0 z.2
    change z.2.rest = u1 ++ (eachR numberR [46] z.2).2.rest at e2
    simp only at h3
    rw [h3, List.append_nil] at e2
    exact ⟨_, e2, k1⟩
theorem noat_domD {t d : List UInt8} {lit lg : Bool} (h : DomT t d lit lg) : ∀ c ∈ t, c ≠ 64 := by
  rcases h with ⟨rfl, h2, _⟩ | ⟨rfl, _, w, h3, rfl, _⟩
  · exact noat_dom h2
  · intro c hc
    rcases List.mem_cons.1 hc with rfl | hc
    · decide
    · rcases List.mem_append.1 hc with hc | hc
      · exact noat_words h3 c hc
      · have : c = 93 := by simpa using hc
        rw [this]
        decide
theorem last_at (a b : List UInt8) (hb : ∀ c ∈ b, c ≠ 64) : Lib.lastIndexByte (bs (a ++ 64 :: b)) 64 = (a.length : Int) := by
  have hat : ∀ j, (h : j < (a ++ 64 :: b).length) → ((bs (a ++ 64 :: b)).data[j]!) = (a ++ 64 :: b)[j] := fun j h => by
    have e : (bs (a ++ 64 :: b)).data[j]! = (a ++ 64 :: b)[j]?.getD default := by simp [bs]
    rw [e, List.getElem?_eq_getElem h]
    rfl
  have hsz : (bs (a ++ 64 :: b)).size = a.length + (b.length + 1) := by rw [bs_size, List.length_append, List.length_cons]
  rcases Lib.lastIndexByte_spec (bs (a ++ 64 :: b)) 64 with ⟨_, h⟩ | ⟨i, h1, h2, h3, h4⟩
  · have := h a.length (by omega)
    rw [hat a.length (by simp)] at this
    simp at this
  · rw [h2]
    have : i = a.length := by
      rcases Nat.lt_trichotomy i a.length with hlt | heq | hgt
      · have := h4 a.length hlt (by omega)
        rw [hat a.length (by simp)] at this
        simp at this
      · exact heq
      · exfalso
        rw [hsz] at h1
        have hi : i < (a ++ 64 :: b).length := by rw [List.length_append, List.length_cons]; omega
        rw [hat i hi, List.getElem_append_right (by omega)] at h3
        obtain ⟨k, hk⟩ : ∃ k, i - a.length = k + 1 := ⟨i - a.length - 1, by omega⟩
        have hkb : k < b.length := by omega
        have e : (64 :: b)[i - a.length]'(by simp; omega) = b[k] := by simp [hk]
        rw [e] at h3
        exact hb _ (List.getElem_mem hkb) (UInt8.toNat_inj.1 (by show b[k].toNat = 64; omega))
    rw [this]
theorem last_none (l : List UInt8) (hl : ∀ c ∈ l, c ≠ 64) : Lib.lastIndexByte (bs l) 64 = -1 := by
  rcases Lib.lastIndexByte_spec (bs l) 64 with ⟨h, _⟩ | ⟨i, h1, h2, h3, h4⟩
  · exact h
  · exfalso
    rw [bs_size] at h1
    have : (bs l).data[i]! = l[i] := by simp [bs, h1]
    rw [this] at h3
    exact hl _ (List.getElem_mem h1) (UInt8.toNat_inj.1 (by show l[i].toNat = 64; omega))
theorem trim_suffix (a b : List UInt8) : Lib.trimSuffix (a ++ b) b = a := by
  unfold Lib.trimSuffix Lib.hasSuffix
  simp
/-- letters turned great, by numbers -/
def turnC (bl : List UInt8) (i : Nat) (c : UInt8) : UInt8 := if (97 ≤ c ∧ c ≤ 122) ∧ ∃ h : i < bl.length, bl[i] % 2 = 1 then c - 97 + 65 else c
def turnD (bl : List UInt8) (x : List UInt8) : List UInt8 := x.mapIdx (turnC bl)
theorem turn_sml : ∀ c : UInt8, (97 ≤ c ∧ c ≤ 122) → sml (c - 97 + 65) = sml c := all_u8 (by decide +kernel)
theorem turn_low (bl x : List UInt8) : low (turnD bl x) = low x := by
  unfold low turnD
  apply List.ext_getElem (by simp)
  intro i h1 h2
  rw [List.getElem_map, List.getElem_map, List.getElem_mapIdx]
  unfold turnC
  split
  · rename_i h
    exact turn_sml _ h.1
  · rfl
theorem turn_len (bl x : List UInt8) : (turnD bl x).length = x.length := by unfold turnD; simp
/-- of two paths that are right no two are printed alike -/
theorem print_inj {p q : Pa} (hp : rightD p = true) (hq : rightD q = true) (h : printD p = printD q) : p = q := by
  have h1 := parseP_all (print_path hp) []
  have h2 := parseP_all (print_path hq) []
  rw [h, h2] at h1
  injection h1 with _ h1
  injection h1 with h1 _
  exact h1.symm
end Go.Proofs.YtjgadocojdieeaaGreatDoor
