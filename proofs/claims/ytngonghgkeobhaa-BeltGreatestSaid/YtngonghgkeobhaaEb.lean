/- The reference's Climb. -/
import Derived.Test.YtngonghgkeobhaaEa
namespace Go.Proofs.Ytngonghgkeobhaa
open Go.RowKit Go.Shelf
set_option linter.unusedVariables false
set_option linter.unusedSimpArgs false

theorem dgn_range (l : List Ed) (S d k : Nat) (hk : k < d) : nth ((List.range d).map (dgn l S)) k = dgn l S k := by unfold nth; simp [hk]
theorem fpos_dgn (S d : Nat) (hd : d ≤ 12) (l : List Ed) (hbl : below d l) (hT : edgesT l) :
    (fpos (gnL S l) = -1 ∧ ∀ j, j < d → dgn l S j ≤ 0) ∨ ∃ k : Nat, k < d ∧ fpos (gnL S l) = k ∧ 0 < dgn l S k ∧ ∀ j, j < k → dgn l S j ≤ 0 := by
  have hlen := gnL_len S l
  rcases fpos_cases (gnL S l) with ⟨h1, h2⟩ | ⟨k, h1, h2, h3, h4⟩
  · exact .inl ⟨h1, fun j hj => by rw [← nth_dgn S j (by omega) l hT]; exact h2 j (by omega)⟩
  · rw [hlen] at h1
    rw [nth_dgn S k h1 l hT] at h3
    have hkd : k < d := by
      by_cases e : k < d
      · exact e
      · rw [dgn_out S d k hd (by omega) h1 l hbl] at h3; omega
    exact .inr ⟨k, hkd, h2, h3, fun j hj => by rw [← nth_dgn S j (by omega) l hT]; exact h4 j hj⟩
end Go.Proofs.Ytngonghgkeobhaa
