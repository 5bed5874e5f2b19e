/- The mathematics of Det. -/
import Derived.Test.YteffkcnlipdgaaaDoorAl
import Derived.Test.YteffkcnlipdgaaaDoorWa
namespace Go.Proofs.YteffkcnlipdgaaaDoor
open Go.RowKit
set_option linter.unusedVariables false
set_option linter.unusedSimpArgs false

def detM (m : Mx) : Int := m.1 * m.2.2.2 - m.2.1 * m.2.2.1
def lstM : Nat → Mx
  | 0 => (1, 0, 0, 1)
  | n + 1 => mul (lstM n) (5, 2, 2, 1)
def leM (m n : Mx) : Prop := (0 ≤ m.1 ∧ m.1 ≤ n.1) ∧ (0 ≤ m.2.1 ∧ m.2.1 ≤ n.2.1) ∧ (0 ≤ m.2.2.1 ∧ m.2.2.1 ≤ n.2.2.1) ∧ (0 ≤ m.2.2.2 ∧ m.2.2.2 ≤ n.2.2.2)
def low40 (m : Mx) : Bool := decide (m.1 ≤ 1099511627776) && decide (m.2.1 ≤ 1099511627776) && decide (m.2.2.1 ≤ 1099511627776) && decide (m.2.2.2 ≤ 1099511627776)
theorem lst_low : (List.range 16).all (fun k => low40 (lstM k)) = true := by decide +kernel
theorem leM_step (m n : Mx) (c : UInt8) (h : leM m n) : leM (mul m (mxOf c)) (mul n (5, 2, 2, 1)) := by
  obtain ⟨a, b, c1, d⟩ := m
  obtain ⟨x, y, z, u⟩ := n
  rcases mxOf_cases c with e | e <;> rw [e] <;> simp only [mul, leM] at h ⊢ <;> omega
theorem det_step (m : Mx) (c : UInt8) : detM (mul m (mxOf c)) = detM m := by
  obtain ⟨a, b, c1, d⟩ := m
  rcases mxOf_cases c with e | e <;> rw [e] <;> simp only [mul, detM] <;> grind
theorem one_step (m : Mx) (c : UInt8) (h : 1 ≤ m.1 ∧ 0 ≤ m.2.1 ∧ 0 ≤ m.2.2.1 ∧ 1 ≤ m.2.2.2) : 1 ≤ (mul m (mxOf c)).1 ∧ 0 ≤ (mul m (mxOf c)).2.1 ∧ 0 ≤ (mul m (mxOf c)).2.2.1 ∧ 1 ≤ (mul m (mxOf c)).2.2.2 := by
  obtain ⟨a, b, c1, d⟩ := m
  rcases mxOf_cases c with e | e <;> rw [e] <;> simp only [mul] at h ⊢ <;> omega
theorem max4_low (m n : Mx) (h : leM m n) (hl : low40 n = true) : ¬ 1152921504606846976 < max4 m := by
  obtain ⟨a, b, c1, d⟩ := m
  obtain ⟨x, y, z, u⟩ := n
  simp only [low40, Bool.and_eq_true, decide_eq_true_eq] at hl
  simp only [leM] at h
  simp only [max4]
  omega
theorem matF_some : ∀ (l : List UInt8) (n : Nat) (m : Mx), l.length + n ≤ 15 → leM m (lstM n) → (1 ≤ m.1 ∧ 0 ≤ m.2.1 ∧ 0 ≤ m.2.2.1 ∧ 1 ≤ m.2.2.2) →
    ∃ m', matF m l = some m' ∧ (∃ k, k ≤ 15 ∧ leM m' (lstM k)) ∧ (1 ≤ m'.1 ∧ 0 ≤ m'.2.1 ∧ 0 ≤ m'.2.2.1 ∧ 1 ≤ m'.2.2.2) ∧ detM m' = detM m
  | [], n, m, hl, h, h1 => ⟨m, rfl, ⟨n, by simp at hl; omega, h⟩, h1, rfl⟩
  | c :: l, n, m, hl, h, h1 => by
    have h2 := leM_step m (lstM n) c h
    have hq : n + 1 ≤ 15 := by simp at hl; omega
    have h3 := max4_low _ (lstM (n + 1)) h2 (List.all_eq_true.1 lst_low (n + 1) (List.mem_range.2 (by omega)))
    obtain ⟨m', p1, p2, p3, p4⟩ := matF_some l (n + 1) (mul m (mxOf c)) (by simp at hl; omega) h2 (one_step m c h1)
    exact ⟨m', by rw [matF, if_neg h3]; exact p1, p2, p3, p4.trans (det_step m c)⟩
theorem matF_det (l : List UInt8) (hl : l.length ≤ 15) : ∃ m, matF (1, 0, 0, 1) l = some m ∧ leM m (1099511627776, 1099511627776, 1099511627776, 1099511627776) ∧ 1 ≤ m.1 ∧ 1 ≤ m.2.2.2 ∧ detM m = 1 := by
  obtain ⟨m, p1, ⟨k, hk, p2⟩, p3, p4⟩ := matF_some l 0 (1, 0, 0, 1) hl (by simp [leM, lstM]) (by simp)
  have hw := List.all_eq_true.1 lst_low k (List.mem_range.2 (by omega))
  simp only [low40, Bool.and_eq_true, decide_eq_true_eq] at hw
  refine ⟨m, p1, ?_, p3.1, p3.2.2.2, p4.trans (by decide)⟩
  generalize lstM k = u at *
  obtain ⟨a, b, c1, d⟩ := m
  obtain ⟨x, y, z, u⟩ := u
  simp only [leM] at p2 hw ⊢
  omega
theorem matF_append : ∀ (l r : List UInt8) (m m' : Mx), matF m l = some m' → matF m (l ++ r) = matF m' r
  | [], r, m, m', h => by rw [matF] at h; cases h; rfl
  | c :: l, r, m, m', h => by
    rw [matF] at h
    rw [List.cons_append, matF]
    split at h
    · cases h
    · rename_i hq
      rw [if_neg hq]
      exact matF_append l r _ m' h
theorem mul_assoc (a m : Mx) (c : UInt8) : mul (mul a m) (mxOf c) = mul a (mul m (mxOf c)) := by
  obtain ⟨a1, a2, a3, a4⟩ := a
  obtain ⟨m1, m2, m3, m4⟩ := m
  rcases mxOf_cases c with e | e <;> rw [e] <;> simp only [mul, Prod.mk.injEq] <;> refine ⟨?_, ?_, ?_, ?_⟩ <;> grind
theorem matF_mul : ∀ (l : List UInt8) (a m b c : Mx), matF (mul a m) l = some c → matF m l = some b → c = mul a b
  | [], a, m, b, c, h1, h2 => by rw [matF] at h1 h2; cases h1; cases h2; rfl
  | x :: l, a, m, b, c, h1, h2 => by
    rw [matF] at h1 h2
    split at h1
    · cases h1
    split at h2
    · cases h2
    rw [mul_assoc] at h1
    exact matF_mul l a _ b c h1 h2
theorem matF_two (l r : List UInt8) (a b c : Mx) (h1 : matF (1, 0, 0, 1) l = some a) (h2 : matF (1, 0, 0, 1) r = some b) (h3 : matF (1, 0, 0, 1) (l ++ r) = some c) : c = mul a b := by
  rw [matF_append l r _ a h1] at h3
  refine matF_mul r a (1, 0, 0, 1) b c ?_ h2
  have : mul a (1, 0, 0, 1) = a := by obtain ⟨a1, a2, a3, a4⟩ := a; simp [mul]
  rw [this]; exact h3
theorem matF_bd : ∀ (l : List UInt8) (m c : Mx), bdM m → matF m l = some c → bdM c
  | [], m, c, hb, h => by rw [matF] at h; cases h; exact hb
  | x :: l, m, c, hb, h => by
    rw [matF] at h
    split at h
    · cases h
    · rename_i hq
      exact matF_bd l _ c (bdM_mul m x hb hq) h
/-- Remainders of the determinant, and of a product. -/
theorem tm_em (a p : Int) (h : 0 ≤ a) : a.tmod p = a % p := Int.tmod_eq_emod_of_nonneg h
theorem det_rem (a b c d p : Int) (ha : 0 ≤ a) (hb : 0 ≤ b) (hc : 0 ≤ c) (hd : 0 ≤ d) (hp : 2 ≤ p) (h : a * d - b * c = 1) :
    ((a.tmod p) * (d.tmod p) - (b.tmod p) * (c.tmod p)).tmod p = 1 ∨ ((a.tmod p) * (d.tmod p) - (b.tmod p) * (c.tmod p)).tmod p = 1 - p := by
  rw [tm_em a p ha, tm_em b p hb, tm_em c p hc, tm_em d p hd]
  have h1 : ((a % p) * (d % p) - (b % p) * (c % p)) % p = 1 := by
    rw [Int.sub_emod, ← Int.mul_emod, ← Int.mul_emod, ← Int.sub_emod, h]
    exact Int.emod_eq_of_lt (by omega) (by omega)
  generalize (a % p) * (d % p) - (b % p) * (c % p) = x at *
  rw [Int.tmod_eq_emod]
  split
  · exact Or.inl (by omega)
  · right
    have : (p.natAbs : Int) = p := by omega
    omega
theorem mul_rem (r s t u p c : Int) (hr : 0 ≤ r) (hs : 0 ≤ s) (ht : 0 ≤ t) (hu : 0 ≤ u) (hp : 2 ≤ p) (hc : 0 ≤ c) (h : c = r * s + t * u) :
    ((r.tmod p * s.tmod p).tmod p + (t.tmod p * u.tmod p).tmod p).tmod p = c.tmod p := by
  have n1 := Int.emod_nonneg r (show p ≠ 0 by omega)
  have n2 := Int.emod_nonneg s (show p ≠ 0 by omega)
  have n3 := Int.emod_nonneg t (show p ≠ 0 by omega)
  have n4 := Int.emod_nonneg u (show p ≠ 0 by omega)
  have n5 := Int.emod_nonneg (r % p * (s % p)) (show p ≠ 0 by omega)
  have n6 := Int.emod_nonneg (t % p * (u % p)) (show p ≠ 0 by omega)
  rw [tm_em r p hr, tm_em s p hs, tm_em t p ht, tm_em u p hu, tm_em _ p (Int.mul_nonneg n1 n2), tm_em _ p (Int.mul_nonneg n3 n4), tm_em _ p (by omega), tm_em _ p hc,
    ← Int.mul_emod, ← Int.mul_emod, ← Int.add_emod, h]
theorem rem_in (a p : Int) (ha : 0 ≤ a) (hp : 2 ≤ p) (hq : p ≤ 2147483647) : 0 ≤ a.tmod p ∧ a.tmod p ≤ 2147483646 := by
  rw [tm_em a p ha]
  have := Int.emod_nonneg a (show p ≠ 0 by omega)
  have := Int.emod_lt_of_pos a (show 0 < p by omega)
  omega
theorem prod_in (x y : Int) (h1 : 0 ≤ x ∧ x ≤ 2147483646) (h2 : 0 ≤ y ∧ y ≤ 2147483646) : 0 ≤ x * y ∧ x * y ≤ 4611686009837453316 := by
  refine ⟨Int.mul_nonneg h1.1 h2.1, ?_⟩
  have := Int.mul_le_mul h1.2 h2.2 h2.1 (show (0 : Int) ≤ 2147483646 by omega)
  omega
end Go.Proofs.YteffkcnlipdgaaaDoor
