/- The reference's sorted, Exchange. -/
import Derived.Test.YtnlogppdnfhelabDoorVa
namespace Go.Proofs.YtnlogppdnfhelabDoor
open Go.RowKit
set_option linter.unusedVariables false
set_option linter.unusedSimpArgs false

/-- Three numbers in order, as the reference puts them. -/
def srt (a b c : Int) : Int × Int × Int := (min (min a b) c, a + b + c - min (min a b) c - max (max a b) c, max (max a b) c)
/-- What exchanging leads to. -/
def exT (e : Int × Int × Int) (k : Nat) : Int × Int × Int := if k = 0 then leftT e else if k = 1 then rightT e else upT e
theorem srt_in (a b c : Int) (h1 : a ≤ b) (h2 : b ≤ c) : srt a b c = (a, b, c) := by
  unfold srt; simp only [Prod.mk.injEq]; omega
theorem srt_up (x y t : Int) (h : x ≤ y) : srt x y t = s3 x y t := by
  unfold srt s3; split
  · simp only [Prod.mk.injEq]; omega
  · split <;> simp only [Prod.mk.injEq] <;> omega
theorem mul_ge {a b : Int} (ha : 1 ≤ a) (hb : 0 ≤ b) : b ≤ a * b := by
  have := Int.mul_le_mul_of_nonneg_right ha hb
  omega
theorem Tri.left_in {x y z : Int} (h : Tri x y z) : z ≤ 3 * y * z - x ∧ 3 * y * z - x ≤ 3000000000000000000 := by
  have hb := h.bds
  obtain ⟨⟨o1, o2, o3, o4⟩, -⟩ := h
  have := mul_ge (a := y) (b := z) (by omega) (by omega)
  have h2 := (bd_mul hb.2.1 hb.2.2).2
  have e : 3 * y * z = 3 * (y * z) := Int.mul_assoc ..
  omega
theorem Tri.up_in {x y z : Int} (h : Tri x y z) : 3 * x * y - z ≤ y ∨ (x = 1 ∧ y = 1 ∧ z = 1) := by
  rcases Int.lt_or_le z 2 with hz | hz
  · right; obtain ⟨⟨o1, o2, o3, o4⟩, -⟩ := h; omega
  · left; exact (Tri.down h hz).2.1
theorem Tri.up_four {x y z : Int} (h : Tri x y z) : (x ≤ y ∧ y ≤ 3 * x * y - z) ∨ (y ≤ x ∧ x ≤ 3 * x * y - z) ∨ (3 * x * y - z ≤ x ∧ x ≤ y) ∨ (x < 3 * x * y - z ∧ 3 * x * y - z ≤ y) := by
  have ho := h.1.2.1
  rcases h.up_in with h1 | ⟨rfl, rfl, rfl⟩
  · omega
  · decide
theorem Tri.right_in {x y z : Int} (h : Tri x y z) : z ≤ 3 * x * z - y ∧ 3 * x * z - y ≤ 3000000000000000000 := by
  have hb := h.bds
  obtain ⟨⟨o1, o2, o3, o4⟩, -⟩ := h
  have := mul_ge (a := x) (b := z) (by omega) (by omega)
  have h2 := (bd_mul hb.1 hb.2.2).2
  have e : 3 * x * z = 3 * (x * z) := Int.mul_assoc ..
  omega
end Go.Proofs.YtnlogppdnfhelabDoor
