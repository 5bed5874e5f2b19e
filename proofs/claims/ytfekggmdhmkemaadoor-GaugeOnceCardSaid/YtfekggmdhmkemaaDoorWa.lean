/- The mathematics of the order and of division: signs of sums, halves of norms, multiples, sums of multiples. -/
import Derived.Test.YtfekggmdhmkemaaDoorVj
namespace Go.Proofs.YtfekggmdhmkemaaDoor
open Go.RowKit
set_option linter.unusedVariables false
set_option linter.unusedSimpArgs false

theorem sq_le {a b : Int} (h0 : 0 ≤ a) (h : a ≤ b) : a * a ≤ b * b := Int.mul_le_mul h h h0 (by omega)
theorem sq_lt {a b : Int} (h0 : 0 ≤ a) (h : a < b) : a * a < b * b := by
  have h1 := Int.mul_le_mul h (show a + 1 ≤ b by omega) (by omega) (by omega)
  have h2 : (a + 1) * (a + 1) = a * a + 2 * a + 1 := by grind
  omega
theorem cross (P Q p q : Int) (hP : 0 ≤ P) (hQ : 0 ≤ Q) (hp : 0 ≤ p) (hq : 0 ≤ q) (h1 : P * P ≤ 5 * (Q * Q)) (h2 : p * p ≤ 5 * (q * q)) : P * p ≤ 5 * (Q * q) := by
  rcases Int.lt_or_le (5 * (Q * q)) (P * p) with h | h
  · have h3 := sq_lt (Int.mul_nonneg (by decide) (Int.mul_nonneg hQ hq)) h
    have h4 := Int.mul_le_mul h1 h2 (Int.mul_nonneg hp hp) (Int.mul_nonneg (by decide) (Int.mul_nonneg hQ hQ))
    have h5 : (P * p) * (P * p) = (P * P) * (p * p) := by grind
    have h6 : (5 * (Q * q)) * (5 * (Q * q)) = 5 * (Q * Q) * (5 * (q * q)) := by grind
    omega
  · exact h
theorem cross2 (P Q p q : Int) (hP : 0 ≤ P) (hQ : 0 ≤ Q) (hp : 0 ≤ p) (hq : 0 ≤ q) (h1 : 5 * (Q * Q) ≤ P * P) (h2 : 5 * (q * q) ≤ p * p) : 5 * (Q * q) ≤ P * p := by
  rcases Int.lt_or_le (P * p) (5 * (Q * q)) with h | h
  · have h3 := sq_lt (Int.mul_nonneg hP hp) h
    have h4 := Int.mul_le_mul h1 h2 (Int.mul_nonneg (by decide) (Int.mul_nonneg hq hq)) (Int.mul_nonneg hP hP)
    have h5 : (P * p) * (P * p) = (P * P) * (p * p) := by grind
    have h6 : (5 * (Q * q)) * (5 * (Q * q)) = 5 * (Q * Q) * (5 * (q * q)) := by grind
    omega
  · exact h
theorem bin (a b : Int) : (a + b) * (a + b) = a * a + 2 * (a * b) + b * b := by grind
def NN (p q : Int) : Prop := (0 ≤ p ∧ 0 ≤ q) ∨ (0 ≤ p ∧ q ≤ 0 ∧ 5 * (q * q) ≤ p * p) ∨ (p ≤ 0 ∧ 0 ≤ q ∧ p * p ≤ 5 * (q * q))
theorem nn_mix (R S P Q : Int) (hR : 0 ≤ R) (hS : 0 ≤ S) (hP : 0 ≤ P) (hQ : 0 ≤ Q) (h1 : 5 * (S * S) ≤ R * R) (h2 : P * P ≤ 5 * (Q * Q)) : NN (R - P) (Q - S) := by
  rcases Int.lt_or_le R P with hRP | hRP
  · rcases Int.lt_or_le Q S with hQS | hQS
    · have := sq_lt hR hRP
      have := sq_lt hQ hQS
      omega
    · refine Or.inr (Or.inr ⟨by omega, by omega, ?_⟩)
      rcases Int.lt_or_le (5 * ((Q - S) * (Q - S))) ((P - R) * (P - R)) with h | h
      · have h3 := cross2 R S (P - R) (Q - S) hR hS (by omega) (by omega) h1 (by omega)
        have h4 := bin R (P - R)
        have h5 := bin S (Q - S)
        rw [show R + (P - R) = P by omega] at h4
        rw [show S + (Q - S) = Q by omega] at h5
        omega
      · rw [show (R - P) * (R - P) = (P - R) * (P - R) by grind]; exact h
  · rcases Int.lt_or_le Q S with hQS | hQS
    · refine Or.inr (Or.inl ⟨by omega, by omega, ?_⟩)
      rcases Int.lt_or_le ((R - P) * (R - P)) (5 * ((S - Q) * (S - Q))) with h | h
      · have h3 := cross P Q (R - P) (S - Q) hP hQ (by omega) (by omega) h2 (by omega)
        have h4 := bin P (R - P)
        have h5 := bin Q (S - Q)
        rw [show P + (R - P) = R by omega] at h4
        rw [show Q + (S - Q) = S by omega] at h5
        omega
      · rw [show (Q - S) * (Q - S) = (S - Q) * (S - Q) by grind]; exact h
    · exact Or.inl ⟨by omega, by omega⟩
theorem neg_sq (a : Int) : (-a) * (-a) = a * a := by grind
theorem nn_add (p q u v : Int) (h1 : NN p q) (h2 : NN u v) : NN (p + u) (q + v) := by
  rcases h1 with ⟨a, b⟩ | ⟨a, b, c⟩ | ⟨a, b, c⟩
  · rcases h2 with ⟨d, e⟩ | ⟨d, e, f⟩ | ⟨d, e, f⟩
    · exact Or.inl ⟨by omega, by omega⟩
    · rcases Int.lt_or_le (q + v) 0 with h | h
      · refine Or.inr (Or.inl ⟨by omega, by omega, ?_⟩)
        have g1 := sq_le d (show u ≤ p + u by omega)
        have g2 := sq_le (show 0 ≤ -(q + v) by omega) (show -(q + v) ≤ -v by omega)
        rw [neg_sq, neg_sq] at g2
        omega
      · exact Or.inl ⟨by omega, h⟩
    · rcases Int.lt_or_le (p + u) 0 with h | h
      · refine Or.inr (Or.inr ⟨by omega, by omega, ?_⟩)
        have g1 := sq_le e (show v ≤ q + v by omega)
        have g2 := sq_le (show 0 ≤ -(p + u) by omega) (show -(p + u) ≤ -u by omega)
        rw [neg_sq, neg_sq] at g2
        omega
      · exact Or.inl ⟨h, by omega⟩
  · rcases h2 with ⟨d, e⟩ | ⟨d, e, f⟩ | ⟨d, e, f⟩
    · rcases Int.lt_or_le (q + v) 0 with h | h
      · refine Or.inr (Or.inl ⟨by omega, by omega, ?_⟩)
        have g1 := sq_le a (show p ≤ p + u by omega)
        have g2 := sq_le (show 0 ≤ -(q + v) by omega) (show -(q + v) ≤ -q by omega)
        rw [neg_sq, neg_sq] at g2
        omega
      · exact Or.inl ⟨by omega, h⟩
    · refine Or.inr (Or.inl ⟨by omega, by omega, ?_⟩)
      have g := cross2 p (-q) u (-v) a (by omega) d (by omega) (by rw [neg_sq]; exact c) (by rw [neg_sq]; exact f)
      rw [show -q * -v = q * v by grind] at g
      rw [bin, bin]; omega
    · have g := nn_mix p (-q) (-u) v a (by omega) (by omega) e (by rw [neg_sq]; exact c) (by rw [neg_sq]; exact f)
      rw [show p - -u = p + u by omega, show v - -q = q + v by omega] at g
      exact g
  · rcases h2 with ⟨d, e⟩ | ⟨d, e, f⟩ | ⟨d, e, f⟩
    · rcases Int.lt_or_le (p + u) 0 with h | h
      · refine Or.inr (Or.inr ⟨by omega, by omega, ?_⟩)
        have g1 := sq_le b (show q ≤ q + v by omega)
        have g2 := sq_le (show 0 ≤ -(p + u) by omega) (show -(p + u) ≤ -p by omega)
        rw [neg_sq, neg_sq] at g2
        omega
      · exact Or.inl ⟨h, by omega⟩
    · have g := nn_mix u (-v) (-p) q d (by omega) (by omega) b (by rw [neg_sq]; exact f) (by rw [neg_sq]; exact c)
      rw [show u - -p = p + u by omega, show q - -v = q + v by omega] at g
      exact g
    · refine Or.inr (Or.inr ⟨by omega, by omega, ?_⟩)
      have g := cross (-p) q (-u) v (by omega) b (by omega) e (by rw [neg_sq]; exact c) (by rw [neg_sq]; exact f)
      rw [show -p * -u = p * u by grind] at g
      rw [bin, bin]; omega
theorem refSgn_nn (a b : Int) : 0 ≤ refSgn a b ↔ NN (2 * a + b) b := by
  have h5 := five_ne (2 * a + b) b
  unfold refSgn NN
  rw [Int.mul_assoc] at h5
  rw [Int.mul_assoc 5 b b]
  generalize 2 * a + b = p at *
  have z1 : p = 0 → p * p = 0 := by intro h; subst h; rfl
  have z2 := sq_pos p
  have z4 := sq_pos b
  have z3 : b = 0 → b * b = 0 := by intro h; subst h; rfl
  generalize b * b = s at *
  generalize p * p = t at *
  (repeat' split) <;> omega
theorem refSgn_neg (a b : Int) : refSgn (-a) (-b) = -refSgn a b := by
  have h5 := five_ne (2 * a + b) b
  unfold refSgn
  rw [show 2 * -a + -b = -(2 * a + b) by omega, show 5 * -b * -b = 5 * b * b by grind]
  generalize 2 * a + b = p at *
  rw [neg_sq p]
  generalize 5 * b * b = t at *
  generalize p * p = s at *
  (repeat' split) <;> omega
theorem refSgn_zero (a b : Int) : refSgn a b = 0 ↔ a = 0 ∧ b = 0 := by
  unfold refSgn
  generalize 5 * b * b = t
  generalize (2 * a + b) * (2 * a + b) = s
  (repeat' split) <;> omega
theorem refSgn_in (a b : Int) : -1 ≤ refSgn a b ∧ refSgn a b ≤ 1 := by
  unfold refSgn
  (repeat' split) <;> omega

theorem sgn_nn (a b : Int) : 0 ≤ sgn a b ↔ NN (2 * a + b) b := by rw [← refSgn_eq]; exact refSgn_nn a b
theorem sgn_neg (a b : Int) : sgn (-a) (-b) = -sgn a b := by rw [← refSgn_eq, ← refSgn_eq]; exact refSgn_neg a b
theorem sgn_zero (a b : Int) : sgn a b = 0 ↔ a = 0 ∧ b = 0 := by rw [← refSgn_eq]; exact refSgn_zero a b
theorem sgn_in (a b : Int) : -1 ≤ sgn a b ∧ sgn a b ≤ 1 := by rw [← refSgn_eq]; exact refSgn_in a b
theorem sgn_add (a b c d : Int) (h1 : 0 ≤ sgn a b) (h2 : 0 ≤ sgn c d) : 0 ≤ sgn (a + c) (b + d) := by
  rw [sgn_nn] at *
  have := nn_add _ _ _ _ h1 h2
  rw [show 2 * a + b + (2 * c + d) = 2 * (a + c) + (b + d) by omega] at this
  exact this
theorem sgn_add_neg (a b c d : Int) (h1 : sgn a b ≤ 0) (h2 : sgn c d ≤ 0) : sgn (a + c) (b + d) ≤ 0 := by
  have h := sgn_add (-a) (-b) (-c) (-d) (by rw [sgn_neg]; omega) (by rw [sgn_neg]; omega)
  rw [show -a + -c = -(a + c) by omega, show -b + -d = -(b + d) by omega, sgn_neg] at h
  omega
theorem near_half (n d : Int) (hd : d ≠ 0) : 4 * ((n - d * nearG n d) * (n - d * nearG n d)) ≤ d * d := by
  have key : ∀ n d : Int, 0 < d → 4 * ((n - d * nearP n d) * (n - d * nearP n d)) ≤ d * d := by
    intro n d h
    have hn := nearP_near n d h
    unfold isNear at hn
    generalize nearP n d = k at *
    obtain ⟨h1, h2⟩ := hn
    have e1 : 2 * d * k = 2 * (d * k) := Int.mul_assoc _ _ _
    have e2 : 2 * d * (k - 1) = 2 * (d * k) - 2 * d := by rw [Int.mul_sub, Int.mul_one, e1]
    rw [e1] at h1
    rw [e2] at h2
    obtain ⟨m, hm⟩ : ∃ m, n - d * k = m := ⟨_, rfl⟩
    have h3 : -d < 2 * m + 1 := by omega
    have h4 : 2 * m ≤ d := by omega
    rw [hm]
    rcases Int.lt_or_le m 0 with h | h
    · have := sq_le (show 0 ≤ -(2 * m) by omega) (show -(2 * m) ≤ d by omega)
      rw [neg_sq] at this
      grind
    · have := sq_le (show 0 ≤ 2 * m by omega) h4
      grind
  unfold nearG
  split
  · have h := key (-n) (-d) (by omega)
    rw [neg_sq] at h
    have e : -n - -d * nearP (-n) (-d) = -(n - d * nearP (-n) (-d)) := by grind
    rw [e, neg_sq] at h
    exact h
  · exact key n d (by omega)
theorem norm_mate (y : Int × Int) : normG (mateG y) = normG y := by unfold normG mateG; simp only; grind
theorem rest_mate (x y : Int × Int) : timesG (divR x y) (mateG y) = ((timesG x (mateG y)).1 - normG y * (divQ x y).1, (timesG x (mateG y)).2 - normG y * (divQ x y).2) := by
  unfold divR
  generalize divQ x y = q
  unfold timesG mateG normG minusG
  apply Prod.ext <;> simp only <;> grind
/-- The norm of the rest is at most half of the norm of what divides. -/
theorem rest_half (x y : Int × Int) (hN : normG y ≠ 0) : 2 * (normG (divR x y)).natAbs ≤ (normG y).natAbs := by
  have h1 := norm_times (divR x y) (mateG y)
  rw [norm_mate, rest_mate] at h1
  have h2 := near_half (timesG x (mateG y)).1 (normG y) hN
  have h3 := near_half (timesG x (mateG y)).2 (normG y) hN
  have e1 : (divQ x y).1 = nearG (timesG x (mateG y)).1 (normG y) := rfl
  have e2 : (divQ x y).2 = nearG (timesG x (mateG y)).2 (normG y) := rfl
  rw [← e1] at h2
  rw [← e2] at h3
  generalize (timesG x (mateG y)).1 - normG y * (divQ x y).1 = a at *
  generalize (timesG x (mateG y)).2 - normG y * (divQ x y).2 = b at *
  generalize normG (divR x y) = M at *
  generalize normG y = N at *
  unfold normG at h1
  simp only at h1
  clear e1 e2
  have h4 : 0 ≤ (a - b) * (a - b) := by
    rcases Int.lt_or_le (a - b) 0 with h | h
    · have := Int.mul_nonneg (show 0 ≤ -(a-b) by omega) (show 0 ≤ -(a-b) by omega); rw [neg_sq] at this; exact this
    · exact Int.mul_nonneg h h
  have h5 : 0 ≤ (a + b) * (a + b) := by
    rcases Int.lt_or_le (a + b) 0 with h | h
    · have := Int.mul_nonneg (show 0 ≤ -(a+b) by omega) (show 0 ≤ -(a+b) by omega); rw [neg_sq] at this; exact this
    · exact Int.mul_nonneg h h
  have h6 : (a - b) * (a - b) = a * a - 2 * (a * b) + b * b := by grind
  have h7 : (a + b) * (a + b) = a * a + 2 * (a * b) + b * b := by grind
  have h8 : 2 * (M * N) ≤ N * N := by omega
  have h9 : -(N * N) ≤ 2 * (M * N) := by omega
  clear h1 h2 h3 h4 h5 h6 h7
  rcases Nat.lt_or_ge N.natAbs (2 * M.natAbs) with h | h
  · exfalso
    have g := Nat.mul_le_mul_right N.natAbs h
    have g1 : (N.natAbs * N.natAbs : Nat) = (N * N).natAbs := (Int.natAbs_mul _ _).symm
    have g2 : M.natAbs * N.natAbs = (M * N).natAbs := (Int.natAbs_mul _ _).symm
    have g3 : N.natAbs.succ * N.natAbs = N.natAbs * N.natAbs + N.natAbs := Nat.succ_mul _ _
    have g4 : 2 * M.natAbs * N.natAbs = 2 * (M.natAbs * N.natAbs) := Nat.mul_assoc _ _ _
    have g5 := sq_pos N hN
    omega
  · exact h
theorem nearG_mul (k d : Int) (hd : d ≠ 0) : nearG (k * d) d = k := by
  have key : ∀ k d : Int, 0 < d → nearP (k * d) d = k := fun k d h => by
    refine isNear_one _ _ _ _ h (nearP_near _ _ h) ?_
    unfold isNear
    have e1 : 2 * d * k = 2 * (k * d) := by grind
    have e2 : 2 * d * (k - 1) = 2 * (k * d) - 2 * d := by grind
    omega
  unfold nearG
  split
  · rw [← Int.mul_neg]; exact key _ _ (by omega)
  · exact key _ _ (by omega)
theorem times_back (z y : Int × Int) : timesG (timesG z y) (mateG y) = (z.1 * normG y, z.2 * normG y) := by
  unfold timesG mateG normG
  apply Prod.ext <;> simp only <;> grind
theorem div_mul (z y : Int × Int) (hN : normG y ≠ 0) : divQ (timesG z y) y = z ∧ divR (timesG z y) y = (0, 0) := by
  have h : divQ (timesG z y) y = z := by
    unfold divQ
    rw [times_back]
    apply Prod.ext
    · exact nearG_mul _ _ hN
    · exact nearG_mul _ _ hN
  refine ⟨h, ?_⟩
  unfold divR
  rw [h]
  unfold minusG
  apply Prod.ext <;> simp
theorem div_sum (x y : Int × Int) : (timesG (divQ x y) y).1 + (divR x y).1 = x.1 ∧ (timesG (divQ x y) y).2 + (divR x y).2 = x.2 := by
  unfold divR minusG
  simp only
  omega
/-- x and y are sums of multiples of a and b. -/
def Spans (x a b : Int × Int) : Prop := ∃ u v : Int × Int, x = ((timesG u a).1 + (timesG v b).1, (timesG u a).2 + (timesG v b).2)
theorem spans_first (a b : Int × Int) : Spans a a b := ⟨(1, 0), (0, 0), by unfold timesG; apply Prod.ext <;> simp⟩
theorem spans_second (a b : Int × Int) : Spans b a b := ⟨(0, 0), (1, 0), by unfold timesG; apply Prod.ext <;> simp⟩
theorem spans_next (x a b : Int × Int) (h : Spans x a b) : Spans x b (divR a b) := by
  obtain ⟨u, v, h⟩ := h
  have hs := div_sum a b
  generalize divQ a b = q at *
  generalize divR a b = r at *
  refine ⟨((timesG u q).1 + v.1, (timesG u q).2 + v.2), u, ?_⟩
  rw [h]
  obtain ⟨h1, h2⟩ := hs
  obtain ⟨a1, a2⟩ := a
  simp only at h1 h2
  subst h1 h2
  unfold timesG
  apply Prod.ext <;> simp only <;> grind
theorem spans_end (x a : Int × Int) (h : Spans x a (0, 0)) : ∃ u, x = timesG u a := by
  obtain ⟨u, v, h⟩ := h
  refine ⟨u, h.trans ?_⟩
  unfold timesG
  apply Prod.ext <;> simp
end Go.Proofs.YtfekggmdhmkemaaDoor
