/- What a winding of a table holds. Nothing is claimed here. -/
import Derived.Test.YtikedhkibdeheaaGw
import Derived.Test.YtikedhkibdeheaaCe
namespace Go.Proofs.Ytikedhkibdeheaa
open Go.RowKit
set_option linter.unusedVariables false

theorem nodup_le : ∀ (l m : List Int), l.Nodup → (∀ x ∈ l, x ∈ m) → l.length ≤ m.length
  | [], m, _, _ => Nat.zero_le _
  | a :: l, m, hn, hs => by
    rw [List.nodup_cons] at hn
    have ha : a ∈ m := hs a (by simp)
    have := nodup_le l (m.erase a) hn.2 (fun x hx => (List.mem_erase_of_ne (by intro e; subst e; exact hn.1 hx)).2 (hs x (by simp [hx])))
    rw [List.length_erase_of_mem ha] at this
    have : 0 < m.length := List.length_pos_of_mem ha
    simp only [List.length_cons]; omega
theorem col_all (d : Nat) (l : List Int) (hl : l.length = d) (hh : l.all (hasB d) = true) (hn : l.Nodup) (s : Nat) (hs : s < d) : (s : Int) ∈ l := by
  by_cases h : (s : Int) ∈ l
  · exact h
  · exfalso
    have h1 : ∀ x ∈ l, x ∈ ((List.range d).map (fun i : Nat => (i : Int))).erase (s : Int) := by
      intro x hx
      have hb := (hasB_iff _ _).1 (List.all_eq_true.1 hh x hx)
      refine (List.mem_erase_of_ne (by intro e; subst e; exact h hx)).2 ?_
      refine List.mem_map.2 ⟨x.toNat, by simp; omega, by omega⟩
    have h2 := nodup_le _ _ hn h1
    rw [List.length_erase_of_mem (List.mem_map.2 ⟨s, by simpa using hs, rfl⟩)] at h2
    simp at h2
    omega
theorem nth_inj (l : List Int) (hn : l.Nodup) (i j : Nat) (hi : i < l.length) (hj : j < l.length) (h : nth l i = nth l j) : i = j := by
  simp only [nth, List.getElem?_eq_getElem hi, List.getElem?_eq_getElem hj, Option.getD_some] at h
  have hp := List.pairwise_iff_getElem.1 hn
  by_cases e : i = j
  · exact e
  · exfalso
    rcases Nat.lt_or_gt_of_ne e with h1 | h1
    · exact hp i j hi hj h1 h
    · exact hp j i hj hi h1 h.symm
/-- The cells of a generator's two rows, behind the laying of its column. -/
theorem lay_front (W : List Int) (gi : Nat) (l : List Int) (hW : W.length = 22) (hg : gi < 2) (h5 : l.length ≤ 5) (hx : ∀ j, j < l.length → 0 ≤ nth l j ∧ nth l j < 5) : ∀ m, m ≤ l.length → ∀ j, j < m → nth (layK W gi l m) (2 + 10 * gi + j) = nth l j
  | 0, _, j, hj => by omega
  | m + 1, hm, j, hj => by
    have hxm := hx m (by omega)
    rw [layK_succ, nth_set, nth_set, if_neg (by omega)]
    by_cases e : m = j
    · subst e; rw [if_pos ⟨rfl, by rw [layK_length, hW]; omega⟩]
    · rw [if_neg (by omega)]; exact lay_front W gi l hW hg h5 hx m (by omega) j (by omega)
theorem lay_back (W : List Int) (gi : Nat) (l : List Int) (hW : W.length = 22) (hg : gi < 2) (h5 : l.length ≤ 5) (hx : ∀ j, j < l.length → 0 ≤ nth l j ∧ nth l j < 5) (hn : l.Nodup) : ∀ m, m ≤ l.length → ∀ j, j < m → nth (layK W gi l m) (2 + 10 * gi + 5 + (nth l j).toNat) = j
  | 0, _, j, hj => by omega
  | m + 1, hm, j, hj => by
    have hxm := hx m (by omega)
    have hxj := hx j (by omega)
    rw [layK_succ, nth_set, nth_set, List.length_set, layK_length, hW]
    by_cases e : m = j
    · subst e; rw [if_pos ⟨rfl, by omega⟩]
    · have hne : nth l m ≠ nth l j := fun h => e (nth_inj l hn m j (by omega) (by omega) h)
      rw [if_neg (by omega), if_neg (by omega)]
      exact lay_back W gi l hW hg h5 hx hn m (by omega) j (by omega)
theorem lay_rest (W : List Int) (gi : Nat) (l : List Int) (h5 : l.length ≤ 5) (hx : ∀ j, j < l.length → 0 ≤ nth l j ∧ nth l j < 5) (k : Nat) (hk : k < 2 + 10 * gi ∨ 12 + 10 * gi ≤ k) : ∀ m, m ≤ l.length → nth (layK W gi l m) k = nth W k
  | 0, _ => rfl
  | m + 1, hm => by
    have hxm := hx m (by omega)
    rw [layK_succ, nth_set, nth_set, if_neg (by omega), if_neg (by omega)]
    exact lay_rest W gi l h5 hx k hk m (by omega)
/-- A column of a table. -/
theorem col_of (t : List (List Int)) (h : windB t = true) (k : Nat) (l : List Int) (hl : t[k]? = some l) : l.length = shN t ∧ l.all (hasB (shN t)) = true ∧ l.Nodup ∧ shN t ≤ 5 ∧ ∀ j, j < l.length → 0 ≤ nth l j ∧ nth l j < shN t := by
  obtain ⟨_, _, h5, hc⟩ := windB_parts t h
  obtain ⟨c1, c2, c3⟩ := colB_parts _ _ (hc l (List.mem_of_getElem? hl))
  exact ⟨by omega, c2, c3, h5, fun j hj => (hasB_iff _ _).1 (List.all_eq_true.1 c2 _ (nth_mem l j hj))⟩
theorem windK_at (t : List (List Int)) (h : windB t = true) : ∀ n, n ≤ t.length → ∀ k l, k < n → t[k]? = some l → ∀ j, j < l.length → nth (windK t n) (2 + 10 * k + j) = nth l j ∧ nth (windK t n) (2 + 10 * k + 5 + (nth l j).toNat) = j
  | 0, _, k, l, hk, _, _, _ => by omega
  | n + 1, hn, k, l, hk, hl, j, hj => by
    obtain ⟨h12, _⟩ := windB_parts t h
    have hln : t[n]? = some t[n] := List.getElem?_eq_getElem (by omega)
    obtain ⟨q1, q2, q3, q4, q5⟩ := col_of t h n _ hln
    obtain ⟨p1, p2, p3, p4, p5⟩ := col_of t h k l hl
    have hx5 : ∀ j, j < (t[n]).length → 0 ≤ nth t[n] j ∧ nth t[n] j < 5 := fun j hj => by have := q5 j hj; omega
    have hpj := p5 j hj
    rw [windK_succ, hln, Option.getD_some]
    by_cases e : k = n
    · subst e
      rw [hln] at hl; cases hl
      exact ⟨lay_front _ _ _ (windK_length _ _) (by omega) (by omega) hx5 _ (Nat.le_refl _) j hj, lay_back _ _ _ (windK_length _ _) (by omega) (by omega) hx5 q3 _ (Nat.le_refl _) j hj⟩
    · have := windK_at t h n (by omega) k l (by omega) hl j hj
      unfold layS
      rw [lay_rest _ _ _ (by omega) hx5 _ (by omega) _ (Nat.le_refl _), lay_rest _ _ _ (by omega) hx5 _ (by omega) _ (Nat.le_refl _)]
      exact this
theorem windW_at (t : List (List Int)) (h : windB t = true) (k : Nat) (l : List Int) (hl : t[k]? = some l) (j : Nat) (hj : j < l.length) : nth (windW t) (2 + 10 * k + j) = nth l j ∧ nth (windW t) (2 + 10 * k + 5 + (nth l j).toNat) = j := by
  rw [windW, if_pos h]
  exact windK_at t h t.length (Nat.le_refl _) k l (List.getElem?_eq_some_iff.1 hl).1 hl j hj
end Go.Proofs.Ytikedhkibdeheaa
