/- An order with a stud at a corner: its words. -/
import Derived.Test.YtdploccpobpjjaaRd
import Derived.Test.YtdploccpobpjjaaRe
namespace Go.Proofs.Ytdploccpobpjjaa
open Go.RowKit Go.Shelf
set_option linter.unusedVariables false
set_option linter.unusedSimpArgs false

/-- The first k rows are one higher. -/
def incK (L : List Int) (k : Nat) : List Int := (L.take k).map (· + 1) ++ L.drop k
theorem incK_length (L : List Int) (k : Nat) : (incK L k).length = L.length := by simp [incK]; omega
theorem incK_zero (L : List Int) : incK L 0 = L := by simp [incK]
theorem incK_all (L : List Int) : incK L L.length = L.map (· + 1) := by simp [incK]
theorem incK_nth (L : List Int) (k : Nat) (h : k < L.length) : nth (incK L k) k = nth L k := by
  unfold nth incK
  rw [List.getElem?_append_right (by simp; omega)]
  simp only [List.length_map, List.length_take, List.getElem?_drop]
  rw [show k + (k - min k L.length) = k by omega]
theorem incK_succ (L : List Int) (k : Nat) (h : k < L.length) : (incK L k).set k (nth L k + 1) = incK L (k + 1) := by
  unfold incK
  rw [take_nth L k h, List.map_append, List.append_assoc, List.set_append_right _ _ (by simp; omega)]
  congr 1
  rw [List.drop_eq_getElem_cons h]
  simp only [List.length_map, List.length_take]
  rw [show k - min k L.length = 0 by omega]
  rfl
/-- With a stud at a corner. -/
def corL (l : List Int) (c : Nat) : List Int :=
  let rows := if c % 2 = 0 then l.map (· + 1) else l
  let row : Int := if c % 2 = 0 then 0 else l.length
  if c < 2 then row :: rows else rows ++ [row]
theorem corL_length (l : List Int) (c : Nat) : (corL l c).length = l.length + 1 := by
  unfold corL
  simp only
  split <;> split <;> simp
/-- Where the columns of the order lie, and by how much its rows are higher. -/
theorem corL_nth (l : List Int) (c k : Nat) (h : k < l.length) : nth (corL l c) (if c < 2 then k + 1 else k) = nth l k + (if c % 2 = 0 then 1 else 0) := by
  unfold corL nth
  simp only
  by_cases h1 : c < 2
  · rw [if_pos h1, if_pos h1, List.getElem?_cons_succ]
    by_cases h2 : c % 2 = 0
    · rw [if_pos h2, if_pos h2]; simp [h]
    · rw [if_neg h2, if_neg h2]; simp
  · rw [if_neg h1, if_neg h1]
    by_cases h2 : c % 2 = 0
    · rw [if_pos h2, List.getElem?_append_left (by simpa using h)]; simp [h, h2]
    · rw [if_neg h2, List.getElem?_append_left h]; simp [h2]
theorem clearB_nohit (l : List Int) : clearB l = true ↔ ∀ i j k, i < j → i < k → k + j - i < l.length → ¬ hitP l i j k := by
  unfold clearB
  rw [List.all_eq_true]
  constructor
  · intro h i j k h1 h2 h3 hh
    have := h (k + j - i) (List.mem_range.2 h3)
    rw [(lastB_hit h3).2 ⟨i, j, k, h1, h2, rfl, hh⟩] at this
    cases this
  · intro h q hq
    have hq := List.mem_range.1 hq
    cases hb : lastB (l.take (q + 1)) with
    | false => rfl
    | true =>
      obtain ⟨i, j, k, h1, h2, h3, hh⟩ := (lastB_hit hq).1 hb
      exact absurd hh (h i j k h1 h2 (by omega))
/-- An order that is clear with a stud at a corner is clear. -/
theorem clear_corner (l : List Int) (c : Nat) (h : clearB (corL l c) = true) : clearB l = true := by
  rw [clearB_nohit] at h ⊢
  intro i j k h1 h2 h3 hh
  unfold hitP at h hh
  have e1 := corL_nth l c i (by omega)
  have e2 := corL_nth l c j (by omega)
  have e3 := corL_nth l c k (by omega)
  have e4 := corL_nth l c (k + j - i) h3
  have hl := corL_length l c
  by_cases hc : c < 2
  · simp only [if_pos hc] at e1 e2 e3 e4
    refine h (i + 1) (j + 1) (k + 1) (by omega) (by omega) (by omega) ?_
    rw [show k + 1 + (j + 1) - (i + 1) = k + j - i + 1 by omega, e1, e2, e3, e4]; omega
  · simp only [if_neg hc] at e1 e2 e3 e4
    refine h i j k h1 h2 (by omega) ?_
    rw [e1, e2, e3, e4]; omega
theorem corL_ord (l : List Int) (c : Nat) (h : ordB l = true) (h15 : l.length ≤ 15) : ordB (corL l c) = true := by
  obtain ⟨h1, h2, h3, h4⟩ := ordB_parts l h
  have hin : ∀ x ∈ l, 0 ≤ x ∧ x < l.length := fun x hx => (hasB_iff _ _).1 (List.all_eq_true.1 h3 x hx)
  have hmem : ∀ x ∈ corL l c, 0 ≤ x ∧ x < (l.length : Int) + 1 := by
    intro x hx
    unfold corL at hx
    simp only at hx
    have hrow : ∀ y ∈ (if c % 2 = 0 then l.map (· + 1) else l), 0 ≤ y ∧ y < (l.length : Int) + 1 := fun y hy => by
      split at hy
      · obtain ⟨z, hz, rfl⟩ := List.mem_map.1 hy
        have := hin z hz
        omega
      · have := hin y hy
        omega
    have hx2 : x = (if c % 2 = 0 then 0 else (l.length : Int)) ∨ x ∈ (if c % 2 = 0 then l.map (· + 1) else l) := by
      split at hx
      · rcases List.mem_cons.1 hx with h | h
        · exact .inl h
        · exact .inr h
      · rcases List.mem_append.1 hx with h | h
        · exact .inr h
        · exact .inl (by simpa using h)
    rcases hx2 with h | h
    · rw [h]; split <;> omega
    · exact hrow x h
  have hnd : (corL l c).Nodup := by
    have hn1 : (if c % 2 = 0 then l.map (· + 1) else l).Nodup := by
      split
      · exact List.pairwise_map.2 (h4.imp (fun hne e => hne (by omega)))
      · exact h4
    have hn2 : (if c % 2 = 0 then (0 : Int) else (l.length : Int)) ∉ (if c % 2 = 0 then l.map (· + 1) else l) := by
      split
      · intro hm
        obtain ⟨z, hz, he⟩ := List.mem_map.1 hm
        have := hin z hz
        omega
      · intro hm
        have := hin _ hm
        omega
    unfold corL
    simp only
    split
    · exact List.nodup_cons.2 ⟨hn2, hn1⟩
    · rw [List.nodup_append]
      refine ⟨hn1, by simp, fun a ha b hb e => hn2 ?_⟩
      rw [List.mem_singleton] at hb
      rw [← hb, ← e]; exact ha
  unfold ordB
  rw [corL_length, Bool.and_eq_true]
  refine ⟨by simp; omega, rowsB_yes _ _ (List.all_eq_true.2 fun x hx => (hasB_iff _ _).2 ?_) hnd⟩
  have := hmem x hx
  push_cast; omega
end Go.Proofs.Ytdploccpobpjjaa
