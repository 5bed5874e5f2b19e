/- The reference's Best; law Bests. -/
import Derived.Test.YtngonghgkeobhaaEd
import Derived.Test.YtngonghgkeobhaaDi
namespace Go.Proofs.Ytngonghgkeobhaa
open Go.RowKit Go.Shelf
set_option linter.unusedVariables false
set_option linter.unusedSimpArgs false

theorem prp_sd (v k : Nat) (hk : k < 2 ^ v) (hv : v < 12) : (prp v)[k]? = some (k * 2 ^ (12 - (v + 1))) := by
  unfold prp
  rw [sds_at _ _ _ hk]
  unfold bt
  rw [show 12 - (v + 1) = 11 - v by omega]
theorem valL_zero (l : List Ed) : valL 0 l = 0 := by
  have key : ∀ k, k ≤ l.length → valL 0 (l.take k) = 0 := by
    intro k
    induction k with
    | zero => intro _; rfl
    | succ k ih =>
      intro hk
      have hx : l[k]? = some l[k] := List.getElem?_eq_getElem (by omega)
      rw [take_at l k _ hx, valL_snoc, ih (by omega)]
      unfold wgt hs
      simp
  have := key l.length (Nat.le_refl _)
  rwa [List.take_length] at this
theorem rb_val (f : Nat → Int) (xs : List Nat) (h0 : xs[0]? = some 0) (hf0 : f 0 = 0) (B : Int) (hB : 0 ≤ B) (hf : ∀ x, -B ≤ f x ∧ f x ≤ B) (k : Nat) (hk : k ≤ xs.length) : -B ≤ (rb f xs k).2.1 ∧ (rb f xs k).2.1 ≤ B ∧ (rb f xs k).2.2 ≤ k := by
  induction k with
  | zero => exact ⟨by show -B ≤ (0 : Int); omega, by show (0 : Int) ≤ B; omega, Nat.le_refl _⟩
  | succ k ih =>
    have ih := ih (by omega)
    have h := hf xs[k]
    rw [rb_step f xs h0 hf0 k _ (List.getElem?_eq_getElem (by omega))]
    split
    · exact ⟨h.1, h.2, by simp only; omega⟩
    · split
      · exact ⟨ih.1, ih.2.1, by simp only; omega⟩
      · exact ⟨ih.1, ih.2.1, by omega⟩
end Go.Proofs.Ytngonghgkeobhaa
