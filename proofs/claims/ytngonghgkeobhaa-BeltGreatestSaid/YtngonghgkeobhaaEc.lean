/- All sides in lexicographic order; what the best of some is. -/
import Derived.Test.YtngonghgkeobhaaEa
namespace Go.Proofs.Ytngonghgkeobhaa
open Go.RowKit Go.Shelf
set_option linter.unusedVariables false
set_option linter.unusedSimpArgs false

/-- All texts of i characters. -/
def sdl (i : Nat) : List ByteArray := (List.range (2 ^ i)).map fun k => TX (k * 2 ^ (12 - i)) i
theorem sdl_length (i : Nat) : (sdl i).length = 2 ^ i := by simp [sdl]
theorem sdl_at (i k : Nat) (h : k < 2 ^ i) : (sdl i)[k]? = some (TX (k * 2 ^ (12 - i)) i) := by simp [sdl, h]
theorem hs_mul (k j u : Nat) (hj : j ≤ 11 - u) (hu : u < 12) : hs (k * 2 ^ j) u = k.testBit (11 - u - j) := by
  unfold hs
  rw [Nat.mul_comm, Nat.testBit_two_pow_mul]
  simp [hj]
theorem TX_snoc (S d : Nat) : TX S (d + 1) = TX S d ++ ⟨#[chT S d]⟩ := by
  apply bytes_ext
  rw [TX_list, ByteArray.data_append, Array.toList_append]
  change txt S (d + 1) = txt S d ++ [chT S d]
  unfold txt
  rw [List.range_succ, List.map_append]; rfl
theorem sdl_even (i k : Nat) (hi : i < 12) : TX (2 * k * 2 ^ (12 - (i + 1))) (i + 1) = TX (k * 2 ^ (12 - i)) i ++ ⟨#[48]⟩ := by
  have e : 2 * k * 2 ^ (12 - (i + 1)) = k * 2 ^ (12 - i) := by
    rw [show 12 - i = (12 - (i + 1)) + 1 by omega, Nat.pow_succ]
    generalize 2 ^ (12 - (i + 1)) = p
    rw [Nat.mul_comm p 2, ← Nat.mul_assoc, Nat.mul_comm k 2]
  rw [TX_snoc, e]
  have : chT (k * 2 ^ (12 - i)) i = 48 := by
    rw [← e]
    unfold chT
    rw [hs_mul _ _ i (by omega) hi, show 11 - i - (12 - (i + 1)) = 0 by omega]
    simp
  rw [this]
theorem sdl_odd (i k : Nat) (hi : i < 12) : TX ((2 * k + 1) * 2 ^ (12 - (i + 1))) (i + 1) = TX (k * 2 ^ (12 - i)) i ++ ⟨#[49]⟩ := by
  rw [TX_snoc]
  have : chT ((2 * k + 1) * 2 ^ (12 - (i + 1))) i = 49 := by
    unfold chT
    rw [hs_mul _ _ i (by omega) hi, show 11 - i - (12 - (i + 1)) = 0 by omega]
    simp
  rw [this, TX_congr ((2 * k + 1) * 2 ^ (12 - (i + 1))) (k * 2 ^ (12 - i)) i]
  intro u hu
  rw [hs_mul _ _ u (by omega) (by omega), hs_mul _ _ u (by omega) (by omega)]
  rw [show 11 - u - (12 - (i + 1)) = (11 - u - (12 - i)) + 1 by omega, Nat.testBit_succ, show (2 * k + 1) / 2 = k by omega]
theorem bst_ge (f : Nat → Int) (l : List Nat) : ∀ y ∈ l, f y ≤ (bst f l).2 := by
  have key : ∀ (l : List Nat) (p : Nat × Int), p.2 ≤ (l.foldl (bstep f) p).2 ∧ ∀ y ∈ l, f y ≤ (l.foldl (bstep f) p).2 := by
    intro l
    induction l with
    | nil => intro p; exact ⟨Int.le_refl _, fun y hy => by cases hy⟩
    | cons x l ih =>
      intro p
      obtain ⟨h1, h2⟩ := ih (bstep f p x)
      have hb : p.2 ≤ (bstep f p x).2 ∧ f x ≤ (bstep f p x).2 := by
        unfold bstep
        split
        · exact ⟨by simp only; omega, Int.le_refl _⟩
        · exact ⟨Int.le_refl _, by omega⟩
      refine ⟨Int.le_trans hb.1 h1, fun y hy => ?_⟩
      rcases List.mem_cons.1 hy with rfl | h
      · exact Int.le_trans hb.2 h1
      · exact h2 y h
  exact (key l _).2
theorem cntV_zero (f : Nat → Int) (z : Int) (xs : List Nat) (h : ∀ y ∈ xs, f y < z) : cntV f z xs = 0 := by
  unfold cntV
  rw [List.filter_eq_nil_iff.2 (fun y hy => by have := h y hy; simp; omega)]
  rfl
/-- The best of the first k, its value, and how many have it; nothing before the first. -/
def rb (f : Nat → Int) (xs : List Nat) (k : Nat) : Nat × Int × Nat :=
  if k = 0 then (0, 0, 0) else ((bst f (xs.take k)).1, (bst f (xs.take k)).2, cntV f (bst f (xs.take k)).2 (xs.take k))
theorem rb_step (f : Nat → Int) (xs : List Nat) (h0 : xs[0]? = some 0) (hf0 : f 0 = 0) (k x : Nat) (h : xs[k]? = some x) :
    rb f xs (k + 1) = if (rb f xs k).2.1 < f x then (x, f x, 1) else if f x = (rb f xs k).2.1 then ((rb f xs k).1, (rb f xs k).2.1, (rb f xs k).2.2 + 1) else rb f xs k := by
  by_cases hk : k = 0
  · subst hk
    rw [h0, Option.some.injEq] at h
    subst h
    have e : xs.take (0 + 1) = [0] := by rw [take_at xs 0 0 h0]; rfl
    have eb : bst f [0] = (0, 0) := by
      show bstep f (0, -9223372036854775808) 0 = (0, 0)
      unfold bstep
      rw [hf0, if_pos (by decide)]
    have ec : cntV f 0 [0] = 1 := by unfold cntV; simp [hf0]
    have : rb f xs (0 + 1) = (0, 0, 1) := by
      unfold rb
      rw [if_neg (by omega), e, eb]
      simp only
      rw [ec]
    rw [this, hf0, show rb f xs 0 = (0, 0, 0) from rfl]
    simp
  · have hb := bst_take f xs k x h
    have hge := bst_ge f (xs.take k)
    have hc := fun z => cntV_take f z xs k x h
    have e1 : rb f xs (k + 1) = ((bst f (xs.take (k + 1))).1, (bst f (xs.take (k + 1))).2, cntV f (bst f (xs.take (k + 1))).2 (xs.take (k + 1))) := by unfold rb; rw [if_neg (by omega)]
    have e2 : rb f xs k = ((bst f (xs.take k)).1, (bst f (xs.take k)).2, cntV f (bst f (xs.take k)).2 (xs.take k)) := by unfold rb; rw [if_neg hk]
    rw [e1, e2, hb, hc]
    simp only
    generalize bst f (xs.take k) = p at *
    unfold bstep
    by_cases h1 : p.2 < f x
    · rw [if_pos h1, if_pos h1]
      simp only
      rw [cntV_zero f _ _ (fun y hy => by have := hge y hy; omega), if_pos trivial]
    · rw [if_neg h1, if_neg h1]
      by_cases h2 : f x = p.2
      · rw [if_pos h2, if_pos h2]
      · rw [if_neg h2, if_neg h2, Nat.add_zero]
end Go.Proofs.Ytngonghgkeobhaa
