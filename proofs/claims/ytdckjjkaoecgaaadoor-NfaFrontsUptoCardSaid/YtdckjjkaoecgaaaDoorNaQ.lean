/-
  How many states trees make, in plain terms. No conditions but the trees' form.
-/
import Derived.Test.YtdckjjkaoecgaaaDoorNaT
import Derived.Test.YtdckjjkaoecgaaaDoorNbV
namespace Go.Proofs.YtdckjjkaoecgaaaDoor
open Go.RowKit

/-- sets are leaves, choices have kids -/
def GoodR (l : List Ry) : Prop := ∀ x ∈ l, (x.kind = 1 → x.kids = []) ∧ (x.kind = 3 → x.kids ≠ [])
def PqOk (p : Pq) : Prop := 0 ≤ p.tw ∧ (p.kind = 3 → p.begin = -1 ∨ 0 ≤ p.begin) ∧ (¬ p.kind = 3 → 0 ≤ p.begin)
theorem join_len (p : Pq) (kid : Int) (st : List NS) (hp : PqOk p) (hk : 0 ≤ kid) : (joinP p kid st).1.kind = p.kind ∧ PqOk (joinP p kid st).1 ∧ (p.kind = 3 → 0 ≤ (joinP p kid st).1.begin) ∧ ((joinP p kid st).2.length : Int) = (st.length : Int) + (if p.kind = 3 then (if p.begin = -1 then 0 else 1) else 0) := by
  obtain ⟨h1, h2, h3⟩ := hp
  unfold joinP PqOk
  by_cases k2 : p.kind = 2
  · rw [if_pos k2, if_neg (by omega)]
    exact ⟨rfl, ⟨hk, fun h => absurd h (by show ¬ p.kind = 3; omega), fun _ => hk⟩, fun h => absurd h (by omega), by simp⟩
  · rw [if_neg k2]
    by_cases k3 : p.kind = 3
    · rw [if_pos k3, if_pos k3]
      by_cases hb : p.begin = -1
      · rw [if_pos hb, if_pos hb]
        exact ⟨rfl, ⟨h1, fun _ => .inr hk, fun h => absurd k3 h⟩, fun _ => hk, by simp⟩
      · rw [if_neg hb, if_neg hb]
        refine ⟨rfl, ⟨h1, fun _ => .inr (Int.natCast_nonneg _), fun h => absurd k3 h⟩, fun _ => Int.natCast_nonneg _, ?_⟩
        rw [List.length_append]
        push_cast
        rfl
    · rw [if_neg k3, if_neg k3]
      by_cases k4 : p.kind = 4
      · rw [if_pos k4]
        exact ⟨rfl, ⟨h1, h2, h3⟩, fun h => absurd h k3, by simp⟩
      · rw [if_neg k4]
        exact ⟨rfl, ⟨h1, h2, h3⟩, fun h => absurd h k3, by simp⟩
theorem open_len (t : Ry) (tw : Int) (st : List NS) (htw : 0 ≤ tw) : (openP t tw st).1.kind = t.kind ∧ PqOk (openP t tw st).1 ∧ (t.kind = 3 → (openP t tw st).1.begin = -1) ∧ ((openP t tw st).2.length : Int) = (st.length : Int) + (if t.kind = 1 ∨ t.kind = 4 then 1 else 0) := by
  unfold openP PqOk
  by_cases k1 : t.kind = 1
  · rw [if_pos k1, if_pos (.inl k1)]
    refine ⟨rfl, ⟨htw, fun h => absurd h (by show ¬ t.kind = 3; omega), fun _ => Int.natCast_nonneg _⟩, fun h => absurd h (by omega), ?_⟩
    rw [List.length_append]
    push_cast
    rfl
  · rw [if_neg k1]
    by_cases k3 : t.kind = 3
    · rw [if_pos k3, if_neg (by omega)]
      exact ⟨rfl, ⟨htw, fun _ => .inl rfl, fun h => absurd k3 h⟩, fun _ => rfl, by simp⟩
    · rw [if_neg k3]
      by_cases k4 : t.kind = 4
      · rw [if_pos k4, if_pos (.inr k4)]
        refine ⟨rfl, ⟨Int.natCast_nonneg _, fun h => absurd h k3, fun _ => Int.natCast_nonneg _⟩, fun h => absurd h k3, ?_⟩
        rw [List.length_append]
        push_cast
        rfl
      · rw [if_neg k4, if_neg (by omega)]
        exact ⟨rfl, ⟨htw, fun h => absurd h k3, fun _ => htw⟩, fun h => absurd h k3, by simp⟩
mutual
theorem toward_len : ∀ (t : Ry) (tw : Int) (st : List NS), GoodR (preR t) → 0 ≤ tw → ((towardR t tw st).2.length : Int) = (st.length : Int) + statesR t ∧ 0 ≤ (towardR t tw st).1
  | .mk k s0 s1 s2 s3 a c kids, tw, st, hg, htw => by
    obtain ⟨g1, g2⟩ := hg (.mk k s0 s1 s2 s3 a c kids) (by rw [preR]; exact List.mem_cons_self)
    obtain ⟨o1, o2, o3, o4⟩ := open_len (.mk k s0 s1 s2 s3 a c kids) tw st htw
    obtain ⟨h1, h2, h3, h4, h5⟩ := kids_len kids (openP (.mk k s0 s1 s2 s3 a c kids) tw st).1 (openP (.mk k s0 s1 s2 s3 a c kids) tw st).2 (fun x hx => hg x (by rw [preR]; exact List.mem_cons_of_mem _ hx)) o2
    rw [towardR, statesR]
    generalize openP (.mk k s0 s1 s2 s3 a c kids) tw st = O at *
    have hk : (Ry.mk k s0 s1 s2 s3 a c kids).kind = k := rfl
    have hkk : (Ry.mk k s0 s1 s2 s3 a c kids).kids = kids := rfl
    unfold ownZ
    rw [hk] at g1 g2 o1 o3 o4 ⊢
    rw [hkk] at g1 g2 ⊢
    rw [o1] at h3 h5
    dsimp only
    by_cases k3 : k = 3
    · have hne := g2 k3
      have hb := o3 k3
      rw [if_pos k3, if_pos ⟨hb, hne⟩] at h5
      rw [if_neg (by omega), if_pos k3]
      rw [if_neg (by omega)] at o4
      exact ⟨by omega, h3 k3 (.inl hne)⟩
    · rw [if_neg k3] at h5
      have hb : 0 ≤ (kidsR kids O.1 O.2).1.begin := h2.2.2 (by rw [h1, o1]; exact k3)
      by_cases k14 : k = 1 ∨ k = 4
      · rw [if_pos k14] at o4 ⊢
        exact ⟨by omega, hb⟩
      · rw [if_neg k14] at o4 ⊢
        rw [if_neg k3]
        exact ⟨by omega, hb⟩
theorem kids_len : ∀ (ks : List Ry) (p : Pq) (st : List NS), GoodR (preL ks) → PqOk p → (kidsR ks p st).1.kind = p.kind ∧ PqOk (kidsR ks p st).1 ∧ (p.kind = 3 → (ks ≠ [] ∨ 0 ≤ p.begin) → 0 ≤ (kidsR ks p st).1.begin) ∧ (ks = [] → (kidsR ks p st).1 = p) ∧ ((kidsR ks p st).2.length : Int) = (st.length : Int) + statesL ks + (if p.kind = 3 then (ks.length : Int) - (if p.begin = -1 ∧ ks ≠ [] then 1 else 0) else 0)
  | [], p, st, _, hp => by
    rw [kidsR_nil]
    refine ⟨rfl, hp, fun _ h => h.resolve_left (by simp), fun _ => rfl, ?_⟩
    simp [statesL]
  | k :: ks, p, st, hg, hp => by
    have hg1 : GoodR (preR k) := fun x hx => hg x (by rw [preL]; exact List.mem_append_left _ hx)
    have hg2 : GoodR (preL ks) := fun x hx => hg x (by rw [preL]; exact List.mem_append_right _ hx)
    obtain ⟨h1, h2, h3, h4, h5⟩ := kids_len ks p st hg2 hp
    obtain ⟨t1, t2⟩ := toward_len k (kidsR ks p st).1.tw (kidsR ks p st).2 hg1 h2.1
    rw [kidsR_cons]
    obtain ⟨j1, j2, j3, j4⟩ := join_len (kidsR ks p st).1 _ (towardR k (kidsR ks p st).1.tw (kidsR ks p st).2).2 h2 t2
    generalize towardR k (kidsR ks p st).1.tw (kidsR ks p st).2 = T at *
    refine ⟨by rw [j1, h1], j2, fun h _ => j3 (by rw [h1]; exact h), (fun h => by cases h), ?_⟩
    rw [j4, t1, h5, h1, statesL, List.length_cons]
    by_cases k3 : p.kind = 3
    · rw [if_pos k3, if_pos k3, if_pos k3]
      by_cases hks : ks = []
      · rw [h4 hks]
        subst hks
        by_cases hb : p.begin = -1
        · simp [hb]; omega
        · simp [hb]; omega
      · have hb0 := h3 k3 (.inl hks)
        have e0 : (if (kidsR ks p st).1.begin = -1 then (0 : Int) else 1) = 1 := if_neg (by omega)
        rw [e0]
        by_cases hb : p.begin = -1
        · rw [if_pos ⟨hb, hks⟩, if_pos ⟨hb, by simp⟩]
          push_cast
          omega
        · rw [if_neg (fun h => hb h.1), if_neg (fun h => hb h.1)]
          push_cast
          omega
    · rw [if_neg k3, if_neg k3, if_neg k3]
      omega
end
theorem trees_count : ∀ (ls : List Ry) (i : Int) (st : List NS), GoodR (preL ls) → ((treesP ls i st).2.length : Int) = (st.length : Int) + statesL ls + ls.length
  | [], i, st, _ => by simp [treesP, statesL]
  | t :: r, i, st, hg => by
    have h1 := toward_len t (st.length : Int) (st ++ [endN i]) (fun x hx => hg x (by rw [preL]; exact List.mem_append_left _ hx)) (Int.natCast_nonneg _)
    have h2 := trees_count r (i + 1) (towardR t (st.length : Int) (st ++ [endN i])).2 (fun x hx => hg x (by rw [preL]; exact List.mem_append_right _ hx))
    rw [treesP, statesL, List.length_cons]
    simp only
    rw [h2, h1.1, List.length_append]
    push_cast
    simp
    omega
/-- a state for each set, each star, each kid of a choice but one, each tree, and each tree but one -/
theorem machine_count (ls : List Ry) (hg : GoodR (preL ls)) (h : 1 ≤ ls.length) : ((machineP ls).2.length : Int) = statesL ls + 2 * ls.length - 1 := by
  unfold machineP
  rw [splits_len, List.length_dropLast, trees_len]
  have h1 := trees_count ls 0 [] hg
  simp at h1
  push_cast
  omega
end Go.Proofs.YtdckjjkaoecgaaaDoor
