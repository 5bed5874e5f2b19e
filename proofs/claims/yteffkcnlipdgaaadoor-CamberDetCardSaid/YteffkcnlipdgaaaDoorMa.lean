/- Mathematics of triples: exchanging the greatest number leads to a smaller triple; the word of a path. -/
import Derived.Test.YteffkcnlipdgaaaDoorAc
namespace Go.Proofs.YteffkcnlipdgaaaDoor
open Go.RowKit
set_option linter.unusedVariables false
set_option linter.unusedSimpArgs false

/-- A triple. -/
def Tri (x y z : Int) : Prop := ord x y z ∧ x * x + y * y + z * z = 3 * x * y * z
theorem trB_iff (x y z : Int) : trB x y z = true ↔ Tri x y z := by
  unfold trB Tri
  by_cases ho : ord x y z
  · simp only [ho, decide_true, Bool.true_and, Bool.and_eq_true, beq_iff_eq, true_and]
    have hz : z ≠ 0 := by unfold ord at ho; omega
    constructor
    · rintro ⟨h1, h2⟩
      have h3 := Int.mul_tdiv_add_tmod (x * x + y * y) z
      rw [h1, h2] at h3
      grind
    · intro h
      have h3 : x * x + y * y = z * (3 * x * y - z) := by grind
      rw [h3]
      exact ⟨Int.mul_tmod_right .., Int.mul_tdiv_cancel_left _ hz⟩
  · simp [ho]
theorem Tri.bds {x y z : Int} (h : Tri x y z) : bd x ∧ bd y ∧ bd z := h.1.bds
/-- The number for which the greatest one is exchanged. -/
theorem Tri.down {x y z : Int} (h : Tri x y z) (hz : 2 ≤ z) : 1 ≤ 3 * x * y - z ∧ 3 * x * y - z ≤ y ∧ y < z ∧ x * x + y * y + (3 * x * y - z) * (3 * x * y - z) = 3 * x * y * (3 * x * y - z) := by
  obtain ⟨⟨h1, h2, h3, h4⟩, he⟩ := h
  generalize ht : 3 * x * y - z = t
  have e1 : z * t = x * x + y * y := by grind
  have e2 : x * x + y * y + t * t = 3 * x * y * t := by grind
  have p1 : 0 < x * x := Int.mul_pos (by omega) (by omega)
  have p2 : 0 < y * y := Int.mul_pos (by omega) (by omega)
  have ht1 : 1 ≤ t := by
    rcases Int.lt_or_le t 1 with h | h
    · have : z * t ≤ 0 := Int.mul_nonpos_of_nonneg_of_nonpos (by omega) (by omega)
      omega
    · exact h
  have hx2 : x * x ≤ y * y := Int.mul_le_mul h2 h2 (by omega) (by omega)
  have hxy : y * y ≤ x * (y * y) := by
    have := Int.mul_le_mul_of_nonneg_right h1 (Int.le_of_lt p2)
    omega
  have e3 : (z - y) * (t - y) = 2 * (y * y) + x * x - 3 * (x * (y * y)) := by grind
  have hyz : y < z := by
    rcases Int.lt_or_le y z with h | h
    · exact h
    · exfalso
      have : z = y := by omega
      subst this
      have e4 : x * x + 2 * (z * z) = 3 * (x * (z * z)) := by grind
      rcases Int.lt_or_le 1 x with hx | hx
      · have := Int.mul_le_mul_of_nonneg_right (show 2 ≤ x by omega) (Int.le_of_lt p2)
        omega
      · obtain rfl : x = 1 := by omega
        have : 2 * z ≤ z * z := Int.mul_le_mul_of_nonneg_right hz (by omega)
        omega
  refine ⟨ht1, ?_, hyz, e2⟩
  rcases Int.lt_or_le y t with h | h
  · exfalso
    have := Int.mul_pos (show 0 < z - y by omega) (show 0 < t - y by omega)
    omega
  · exact h
/-- The parent. -/
def upT (e : Int × Int × Int) : Int × Int × Int := s3 e.1 e.2.1 (3 * e.1 * e.2.1 - e.2.2)
def leftT (e : Int × Int × Int) : Int × Int × Int := (e.2.1, e.2.2, 3 * e.2.1 * e.2.2 - e.1)
def rightT (e : Int × Int × Int) : Int × Int × Int := (e.1, e.2.2, 3 * e.1 * e.2.2 - e.2.1)
def TriT (e : Int × Int × Int) : Prop := Tri e.1 e.2.1 e.2.2
theorem TriT.up {e : Int × Int × Int} (h : TriT e) (hz : 2 ≤ e.2.2) : TriT (upT e) ∧ (upT e).2.2 = e.2.1 ∧ e.2.1 < e.2.2 := by
  obtain ⟨x, y, z⟩ := e
  obtain ⟨h1, h2, h3, h4⟩ := Tri.down h hz
  obtain ⟨⟨o1, o2, o3, o4⟩, he⟩ := h
  simp only at h1 h2 h3 h4 o1 o2 o3 o4 he hz
  unfold upT s3 TriT Tri ord
  simp only
  generalize 3 * x * y - z = t at *
  split
  · refine ⟨⟨by simp only; omega, by simp only; grind⟩, rfl, h3⟩
  · refine ⟨⟨by simp only; omega, by simp only; grind⟩, rfl, h3⟩
theorem small_tri : ∀ x ∈ ([1, 2, 3, 4] : List Int), ∀ y ∈ ([1, 2, 3, 4] : List Int), ∀ t ∈ ([1, 2, 3, 4] : List Int), x * x + y * y + t * t = 3 * x * y * t → x ≤ y → t ≤ y → 5 ≤ 3 * x * y - t → x = 1 ∧ y = 2 ∧ 3 * x * y - t = 5 := by decide
theorem mem4 {x : Int} (h1 : 1 ≤ x) (h4 : x ≤ 4) : x ∈ ([1, 2, 3, 4] : List Int) := by
  have : x = 1 ∨ x = 2 ∨ x = 3 ∨ x = 4 := by omega
  rcases this with rfl | rfl | rfl | rfl <;> decide
/-- Every triple with a number of at least 5 is 1 2 5, or its parent has one. -/
theorem TriT.five {e : Int × Int × Int} (h : TriT e) (hz : 5 ≤ e.2.2) : e = (1, 2, 5) ∨ 5 ≤ e.2.1 := by
  obtain ⟨x, y, z⟩ := e
  obtain ⟨h1, h2, h3, h4⟩ := Tri.down h (by omega)
  obtain ⟨⟨o1, o2, o3, o4⟩, he⟩ := h
  simp only at h1 h2 h3 h4 o1 o2 o3 o4 he hz ⊢
  rcases Int.lt_or_le y 5 with hy | hy
  · left
    obtain ⟨a, b, c⟩ := small_tri x (mem4 o1 (by omega)) y (mem4 (by omega) (by omega)) (3 * x * y - z) (mem4 h1 (by omega)) h4 o2 h2 (by omega)
    subst a b
    have : z = 5 := by omega
    rw [this]
  · right; exact hy
/-- The letter by which a triple comes from its parent; the path. -/
def ltr (e : Int × Int × Int) : UInt8 := if leftT (upT e) = e then 76 else 82
def pthF : Nat → Int × Int × Int → List UInt8
  | 0, _ => []
  | n + 1, e => if e = (1, 2, 5) then [] else pthF n (upT e) ++ [ltr e]
theorem pthF_any : ∀ (n m : Nat) (e : Int × Int × Int), TriT e → 5 ≤ e.2.2 → e.2.2.toNat ≤ n → e.2.2.toNat ≤ m → pthF n e = pthF m e := by
  intro n
  induction n with
  | zero => intro m e h h5 h1 h2; omega
  | succ n ih =>
    intro m e h h5 h1 h2
    cases m with
    | zero => omega
    | succ m =>
      unfold pthF
      by_cases he : e = (1, 2, 5)
      · rw [if_pos he, if_pos he]
      · rw [if_neg he, if_neg he]
        obtain ⟨a, b, c⟩ := h.up (by omega)
        have := (h.five h5).resolve_left he
        rw [ih m (upT e) a (by omega) (by omega) (by omega)]
def pth (e : Int × Int × Int) : List UInt8 := pthF e.2.2.toNat e
theorem pth_start : pth (1, 2, 5) = [] := by decide
theorem pth_step {e : Int × Int × Int} (h : TriT e) (h5 : 5 ≤ e.2.2) (he : e ≠ (1, 2, 5)) : pth e = pth (upT e) ++ [ltr e] ∧ TriT (upT e) ∧ 5 ≤ (upT e).2.2 ∧ (upT e).2.2 < e.2.2 := by
  obtain ⟨a, b, c⟩ := h.up (by omega)
  have := (h.five h5).resolve_left he
  refine ⟨?_, a, by omega, by omega⟩
  have hp : pthF (e.2.2.toNat - 1 + 1) e = pthF (e.2.2.toNat - 1) (upT e) ++ [ltr e] := by
    rw [pthF, if_neg he]
  rw [show e.2.2.toNat - 1 + 1 = e.2.2.toNat by omega] at hp
  unfold pth
  rw [hp, pthF_any _ (upT e).2.2.toNat (upT e) a (by omega) (by omega) (by omega)]
theorem pthF_len : ∀ (n : Nat) (e : Int × Int × Int), (pthF n e).length ≤ n := by
  intro n
  induction n with
  | zero => intro e; simp [pthF]
  | succ n ih =>
    intro e
    unfold pthF
    split
    · simp
    · have := ih (upT e)
      simp
      omega
end Go.Proofs.YteffkcnlipdgaaaDoor
