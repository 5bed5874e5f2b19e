/- The search for the powers of a number ends with nothing left behind the exponent -40. -/
import Derived.Test.YtfekggmdhmkemaaDoorZc
namespace Go.Proofs.YtfekggmdhmkemaaDoor
open Go.RowKit
set_option linter.unusedVariables false
set_option linter.unusedSimpArgs false

theorem nn_back {u : Int × Int} (h : nn u) : nn (timesG u (pw (-40))) := by
  by_cases h1 : nn (timesG u (pw (-40)))
  · exact h1
  · exfalso
    have h2 : po (-(timesG u (pw (-40))).1, -(timesG u (pw (-40))).2) := not_nn h1 rfl rfl
    have h3 := po_pw h2 40
    have h4 := pw_40s.1
    have h5 : timesG (-(timesG u (pw (-40))).1, -(timesG u (pw (-40))).2) (pw ((40 : Nat) : Int)) = (-u.1, -u.2) := by
      generalize pw (-40) = a at *
      generalize pw ((40 : Nat) : Int) = b at *
      unfold timesG at *
      simp only [Prod.mk.injEq] at *
      obtain ⟨h4, h6⟩ := h4
      refine ⟨?_, ?_⟩ <;> grind
    rw [h5] at h3
    exact nn_not h (by simp) (by simp) h3
theorem nn_lin (B b : Int) (h0 : 0 ≤ B) (h1 : -B ≤ b) (h2 : b ≤ B) : nn (2 * B, b) := by
  unfold nn
  simp only
  rw [sgn_nn]
  rcases Int.lt_or_le b 0 with h | h
  · right; left
    have e1 := sq_le (show 0 ≤ 3 * B by omega) (show 3 * B ≤ 2 * (2 * B) + b by omega)
    have e2 := sq_le (show 0 ≤ -b by omega) (show -b ≤ B by omega)
    rw [neg_sq] at e2
    rw [show (3 * B) * (3 * B) = 9 * (B * B) by grind] at e1
    have e3 := sq_nn B
    refine ⟨by omega, by omega, by omega⟩
  · left; omega
/-- Bounds of the mates of what remains. -/
def hiB (m : Nat) : Int × Int := if m % 2 = 1 then pw ((m + 1 : Nat) : Int) else pw (m : Int)
def loB (m : Nat) : Int × Int := if m % 2 = 0 then pw ((m + 1 : Nat) : Int) else pw (m : Int)
theorem mate_all : ((List.range 41).all fun m : Nat => decide (mateG (pw (-(m : Int))) = if m % 2 = 0 then pw (m : Int) else (-(pw (m : Int)).1, -(pw (m : Int)).2))) = true := by decide +kernel
theorem mate_pw (m : Nat) (h : m ≤ 40) : mateG (pw (-(m : Int))) = if m % 2 = 0 then pw (m : Int) else (-(pw (m : Int)).1, -(pw (m : Int)).2) := by
  have := List.all_eq_true.1 mate_all m (by rw [List.mem_range]; omega)
  simpa using this
theorem mate_minus (x y : Int × Int) : mateG (minusG x y) = minusG (mateG x) (mateG y) := by
  unfold mateG minusG
  apply Prod.ext <;> simp only <;> omega
/-- What holds of what remains behind the exponent -m. -/
def Rem (r : Int × Int) (m : Nat) : Prop :=
  nn r ∧ po (minusG (pw (-(m : Int))) r) ∧ nn (minusG (ad (24000000, 0) (hiB m)) (mateG r)) ∧ nn (ad (ad (24000000, 0) (loB m)) (mateG r))
theorem pw_down (m : Nat) : pw (-(m : Int)) = ad (pw (-((m + 1 : Nat) : Int))) (pw (-((m + 2 : Nat) : Int))) := by
  have := pw_next (-((m + 2 : Nat) : Int))
  rw [show -((m + 2 : Nat) : Int) + 2 = -(m : Int) by omega, show -((m + 2 : Nat) : Int) + 1 = -((m + 1 : Nat) : Int) by omega] at this
  exact this
theorem rem_next (r : Int × Int) (m : Nat) (hm : m < 40) (h : Rem r m) (l : List Int) : Rem (prS (r, l) (-((m + 1 : Nat) : Int))).1 (m + 1) := by
  obtain ⟨h1, h2, h3, h4⟩ := h
  have e1 := pw_down m
  have w2 := pw_po (m : Int) (by omega) (by omega)
  have w3 := pw_po ((m + 1 : Nat) : Int) (by omega) (by omega)
  have e2 := pw_rec2 m
  by_cases hc : nn (minusG r (pw (-((m + 1 : Nat) : Int))))
  · rw [prS_hi r l _ hc]
    have e3 := mate_pw (m + 1) (by omega)
    refine ⟨hc, ?_, ?_, ?_⟩
    · show po (minusG (pw (-((m + 1 : Nat) : Int))) (minusG r (pw (-((m + 1 : Nat) : Int)))))
      have w1 := pw_po (-((m + 1 : Nat) : Int)) (by omega) (by omega)
      have w0 : nn (pw (-((m + 1 : Nat) : Int))) := po_nn w1
      have e5 : po (minusG (pw (-((m + 2 : Nat) : Int))) (minusG r (pw (-((m + 1 : Nat) : Int))))) := by
        refine po_sum h2 nn_zero ?_ ?_ <;> rw [e1] <;> simp only [minusG, ad] <;> omega
      have e6 : pw (-((m + 1 : Nat) : Int)) = ad (pw (-((m + 2 : Nat) : Int))) (pw (-((m + 3 : Nat) : Int))) := pw_down (m + 1)
      have e61 : (pw (-((m + 1 : Nat) : Int))).1 = (pw (-((m + 2 : Nat) : Int))).1 + (pw (-((m + 3 : Nat) : Int))).1 := congrArg Prod.fst e6
      have e62 : (pw (-((m + 1 : Nat) : Int))).2 = (pw (-((m + 2 : Nat) : Int))).2 + (pw (-((m + 3 : Nat) : Int))).2 := congrArg Prod.snd e6
      by_cases h38 : m + 3 ≤ 40
      · have w4 := pw_po (-((m + 3 : Nat) : Int)) (by omega) (by omega)
        exact po_sum e5 (po_nn w4) (by simp only [minusG]; omega) (by simp only [minusG]; omega)
      · have w4 : nn (pw (-((m + 3 : Nat) : Int))) := by
          rcases (show m = 38 ∨ m = 39 by omega) with rfl | rfl <;> decide +kernel
        exact po_sum e5 w4 (by simp only [minusG]; omega) (by simp only [minusG]; omega)
    · rw [mate_minus, e3]
      unfold hiB at *
      rcases Nat.mod_two_eq_zero_or_one m with hp | hp
      · have hp' : (m + 1) % 2 = 1 := by omega
        rw [hp] at h3
        simp only [hp', if_true, show ¬ ((1 : Nat) = 0) by decide, if_false, show ¬ ((0 : Nat) = 1) by decide] at h3 ⊢
        refine nn_sum h3 nn_zero ?_ ?_ <;> rw [e2] <;> simp only [minusG, ad] <;> omega
      · have hp' : (m + 1) % 2 = 0 := by omega
        rw [hp] at h3
        simp only [hp', if_true, show ¬ ((0 : Nat) = 1) by decide, if_false] at h3 ⊢
        refine nn_sum h3 (po_nn w3) ?_ ?_ <;> simp only [minusG, ad] <;> omega
    · rw [mate_minus, e3]
      unfold loB at *
      rcases Nat.mod_two_eq_zero_or_one m with hp | hp
      · have hp' : (m + 1) % 2 = 1 := by omega
        rw [hp] at h4
        simp only [hp', if_true, show ¬ ((1 : Nat) = 0) by decide, if_false] at h4 ⊢
        refine nn_sum h4 (po_nn w3) ?_ ?_ <;> simp only [minusG, ad] <;> omega
      · have hp' : (m + 1) % 2 = 0 := by omega
        rw [hp] at h4
        simp only [hp', if_true, show ¬ ((1 : Nat) = 0) by decide, if_false] at h4 ⊢
        refine nn_sum h4 nn_zero ?_ ?_ <;> rw [e2] <;> simp only [minusG, ad] <;> omega
  · have hc' : po (minusG (pw (-((m + 1 : Nat) : Int))) r) := not_nn hc (by simp only [minusG]; omega) (by simp only [minusG]; omega)
    rw [prS_lo r l _ hc']
    refine ⟨h1, hc', ?_, ?_⟩
    · unfold hiB at *
      rcases Nat.mod_two_eq_zero_or_one m with hp | hp
      · have hp' : (m + 1) % 2 = 1 := by omega
        rw [hp] at h3
        simp only [hp', if_true, if_false, show ¬ ((0 : Nat) = 1) by decide] at h3 ⊢
        refine nn_sum h3 (po_nn w3) ?_ ?_ <;> rw [e2] <;> simp only [minusG, ad] <;> omega
      · have hp' : (m + 1) % 2 = 0 := by omega
        rw [hp] at h3
        simp only [hp', if_true, if_false, show ¬ ((0 : Nat) = 1) by decide] at h3 ⊢
        exact h3
    · unfold loB at *
      rcases Nat.mod_two_eq_zero_or_one m with hp | hp
      · have hp' : (m + 1) % 2 = 1 := by omega
        rw [hp] at h4
        simp only [hp', if_true, if_false, show ¬ ((1 : Nat) = 0) by decide] at h4 ⊢
        exact h4
      · have hp' : (m + 1) % 2 = 0 := by omega
        rw [hp] at h4
        simp only [hp', if_true, if_false, show ¬ ((1 : Nat) = 0) by decide] at h4 ⊢
        refine nn_sum h4 (po_nn w3) ?_ ?_ <;> rw [e2] <;> simp only [minusG, ad] <;> omega
theorem no_rest (P : Int × Int) (h1 : nn P) (h2 : po (minusG (2, 0) (mateG P))) (h3 : (po (minusG (-1, 1) P) ∧ po (ad (2, 0) (mateG P))) ∨ (po (minusG (1, 0) P) ∧ po (ad (1, 0) (mateG P)))) : P = (0, 0) := by
  obtain ⟨p, q⟩ := P
  simp only [minusG, ad, mateG] at *
  have a1 : po (2 - q, 2 * q) := po_sum2 h1 h2 (by simp only; omega) (by simp only; omega)
  have q0 : 0 ≤ q := by
    rcases Int.lt_or_le q 0 with h | h
    · exfalso
      refine nn_not (x := (q - 2, -2 * q)) ?_ (by simp only; omega) (by simp only; omega) a1
      unfold nn; simp only; rw [sgn_nn]
      right; right
      refine ⟨by omega, by omega, ?_⟩
      have := sq_le (show (0 : Int) ≤ 2 by decide) (show 2 ≤ -2 * q by omega)
      rw [show 2 * (q - 2) + -2 * q = -4 by omega]
      omega
    · exact h
  have key : q = 0 := by
    rcases h3 with ⟨h3, h4⟩ | ⟨h3, h4⟩
    · have a2 : po (1 + q, 1 - 2 * q) := po_sum h3 (po_nn h4) (by simp only; omega) (by simp only; omega)
      have q1 : q ≤ 1 := by
        rcases Int.lt_or_le 1 q with h | h
        · exfalso
          refine nn_not (x := (-1 - q, 2 * q - 1)) ?_ (by simp only; omega) (by simp only; omega) a2
          unfold nn; simp only; rw [sgn_nn]
          right; right
          refine ⟨by omega, by omega, ?_⟩
          have := sq_le (show (0 : Int) ≤ 3 by decide) (show 3 ≤ 2 * q - 1 by omega)
          rw [show 2 * (-1 - q) + (2 * q - 1) = -3 by omega]
          omega
        · exact h
      rcases (show q = 0 ∨ q = 1 by omega) with rfl | rfl
      · rfl
      · exfalso
        rcases Int.lt_or_le p (-1) with h | h
        · have a3 : nn ((p + 2), (0 : Int)) ∨ p + 2 < 0 ∨ p + 2 = 0 := by omega
          have a4 : po (-(p + 2) , 0) ∨ p + 2 = 0 := by
            rcases (show p + 2 < 0 ∨ p + 2 = 0 by omega) with h | h
            · left
              unfold po; simp only
              have := (sgn_zero (-(p + 2)) 0).1
              have h5 := nn_int (-(p + 2)) (by omega)
              unfold nn at h5; simp only at h5
              omega
            · exact .inr h
          have a5 : po (-2, 1) → False := by decide
          rcases a4 with h6 | h6
          · have : nn (-2, 1) := nn_sum h1 (po_nn h6) (by simp only; omega) (by simp only; omega)
            exact absurd this (by decide)
          · obtain rfl : p = -2 := by omega
            exact absurd h1 (by decide)
        · exact nn_not (nn_int (p + 1) (by omega)) (by simp only; omega) (by simp) h3
    · have a2 : po (2 + q, -2 * q) := po_sum h3 (po_nn h4) (by simp only; omega) (by simp only; omega)
      rcases Int.lt_or_le 0 q with h | h
      · exfalso
        refine nn_not (x := (-2 - q, 2 * q)) ?_ (by simp only; omega) (by simp only; omega) a2
        unfold nn; simp only; rw [sgn_nn]
        right; right
        refine ⟨by omega, by omega, ?_⟩
        have := sq_le (show (0 : Int) ≤ 2 by decide) (show 2 ≤ 2 * q by omega)
        rw [show 2 * (-2 - q) + 2 * q = -4 by omega]
        omega
      · omega
  subst key
  have p0 : 0 ≤ p := by
    rcases Int.lt_or_le p 0 with h | h
    · exfalso
      have h5 := nn_int (-p) (by omega)
      have h6 : sgn p 0 = 0 := by
        have := sgn_neg p 0
        rw [show -(0 : Int) = 0 from rfl] at this
        unfold nn at h1 h5
        simp only at h1 h5
        omega
      have := (sgn_zero p 0).1 h6
      omega
    · exact h
  have p1 : p < 1 := by
    rcases Int.lt_or_le p 1 with h | h
    · exact h
    · exfalso
      have h5 : po (minusG (1, 0) (p, 0)) := by
        rcases h3 with ⟨h3, _⟩ | ⟨h3, _⟩
        · have : nn (2, -1) := by decide
          exact po_sum h3 this (by simp only [minusG]; omega) (by simp only [minusG]; omega)
        · exact h3
      exact nn_not (nn_int (p - 1) (by omega)) (by simp only [minusG]; omega) (by simp [minusG]) h5
  obtain rfl : p = 0 := by omega
  rfl
theorem scale (r c : Int × Int) : timesG (minusG c (mateG r)) (pw (-40)) = minusG (timesG c (pw (-40))) (mateG (timesG r (pw ((40 : Nat) : Int)))) ∧ timesG (ad c (mateG r)) (pw (-40)) = ad (timesG c (pw (-40))) (mateG (timesG r (pw ((40 : Nat) : Int)))) ∧
    timesG (minusG c r) (pw ((40 : Nat) : Int)) = minusG (timesG c (pw ((40 : Nat) : Int))) (timesG r (pw ((40 : Nat) : Int))) := by
  rw [← mate_times, pw_40s.2.1]
  generalize pw (-40) = a
  generalize pw ((40 : Nat) : Int) = b
  generalize mateG r = m
  unfold timesG minusG ad
  refine ⟨?_, ?_, ?_⟩ <;> apply Prod.ext <;> simp only <;> grind
/-- Behind the exponent -40 nothing remains. -/
theorem rem_zero (r : Int × Int) (h : Rem r 39) (l : List Int) : (prS (r, l) (-40)).1 = (0, 0) := by
  have h40 := rem_next r 39 (by omega) h l
  rw [show -((39 + 1 : Nat) : Int) = -40 from rfl] at h40
  obtain ⟨g1, g2, g3, g4⟩ := h40
  obtain ⟨f1, f2, f3, f4⟩ := h
  have key : ∀ s : Int × Int, timesG s (pw ((40 : Nat) : Int)) = (0, 0) → s = (0, 0) := fun s hs => by
    have e : timesG (timesG s (pw ((40 : Nat) : Int))) (pw (-40)) = s := by
      have := pw_40s.1
      generalize pw (-40) = a at *
      generalize pw ((40 : Nat) : Int) = b at *
      unfold timesG at *
      simp only [Prod.mk.injEq] at *
      obtain ⟨h4, h6⟩ := this
      apply Prod.ext <;> simp only <;> grind
    rw [← e, hs]; decide +kernel
  refine key _ (no_rest _ (nn_pw g1 40) ?_ ?_)
  · have a1 := nn_back g3
    rw [(scale _ _).1] at a1
    have a2 : po (minusG (2, 0) (timesG (ad (24000000, 0) (hiB (39 + 1))) (pw (-40)))) := by decide +kernel
    exact po_sum a2 a1 (by simp only [minusG]; omega) (by simp only [minusG]; omega)
  · by_cases hc : nn (minusG r (pw (-40)))
    · left
      rw [prS_hi r l _ hc] at *
      refine ⟨?_, ?_⟩
      · have a1 : po (minusG (pw (-41)) (minusG r (pw (-40)))) := by
          have e1 := pw_down 39
          rw [show -((39 : Nat) : Int) = -39 from rfl, show -((39 + 1 : Nat) : Int) = -40 from rfl, show -((39 + 2 : Nat) : Int) = -41 from rfl] at e1
          rw [show -((39 : Nat) : Int) = -39 from rfl] at f2
          refine po_sum f2 nn_zero ?_ ?_ <;> rw [e1] <;> simp only [minusG, ad] <;> omega
        have a2 := po_pw a1 40
        rw [(scale _ _).2.2, show timesG (pw (-41)) (pw ((40 : Nat) : Int)) = (-1, 1) by decide +kernel] at a2
        exact a2
      · have a1 := nn_back g4
        rw [(scale _ _).2.1] at a1
        have a2 : po (minusG (2, 0) (timesG (ad (24000000, 0) (loB (39 + 1))) (pw (-40)))) := by decide +kernel
        exact po_sum a2 a1 (by simp only [minusG, ad]; omega) (by simp only [minusG, ad]; omega)
    · right
      have hc' : po (minusG (pw (-40)) r) := not_nn hc (by simp only [minusG]; omega) (by simp only [minusG]; omega)
      rw [prS_lo r l _ hc'] at *
      refine ⟨?_, ?_⟩
      · have a2 := po_pw hc' 40
        rw [(scale _ _).2.2, pw_40s.1] at a2
        exact a2
      · have a1 := nn_back f4
        rw [(scale _ _).2.1] at a1
        have a2 : po (minusG (1, 0) (timesG (ad (24000000, 0) (loB 39)) (pw (-40)))) := by decide +kernel
        exact po_sum a2 a1 (by simp only [minusG, ad]; omega) (by simp only [minusG, ad]; omega)
end Go.Proofs.YtfekggmdhmkemaaDoor
