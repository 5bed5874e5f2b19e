/- Plain texts are plain; the ladder's values have no digits behind the point, and ascend by two kinds of steps. -/
import Derived.Test.YtfekggmdhmkemaaDoorZj
import Derived.Test.YtfekggmdhmkemaaDoorZm
namespace Go.Proofs.YtfekggmdhmkemaaDoor
open Go.RowKit
set_option linter.unusedVariables false
set_option linter.unusedSimpArgs false

theorem dgt_or (x : Int × Int) (n : Nat) : dgt x n = 48 ∨ dgt x n = 49 := by
  unfold dgt
  split
  · exact .inr rfl
  · exact .inl rfl
theorem pSc_dgs (x : Int × Int) (n a : Int) (rest : List UInt8) : ∀ (d u : Nat) (i : Int), pSc n (dgs x u (u + d) ++ rest) i a = pSc n rest (i + d) a
  | 0, u, i => by rw [Nat.add_zero, dgs_self]; simp
  | d + 1, u, i => by
    rw [dgs_head x u (u + (d + 1)) (by omega), List.cons_append, pSc_cons]
    have h := dgt_or x u
    rw [if_neg (fun hc => by rcases h with h | h <;> rw [h] at hc <;> exact absurd hc.1 (by decide)), if_neg (fun hc => by rcases h with h | h <;> rw [h] at hc <;> exact absurd hc (by decide))]
    have := pSc_dgs x n a rest d (u + 1) (i + 1)
    rw [show u + (d + 1) = u + 1 + d by omega, this]
    congr 1
    omega
theorem qSc_dgs (x : Int × Int) (hx : sm2 1000000 x) (hn : nn x) (p : Int) (rest : List UInt8) : ∀ (d u : Nat) (i : Int) (c : UInt8), u + d ≤ 80 → (i + d ≤ p ∨ p < i) → (c = 49 → dgt x u = 48 ∨ d = 0) →
    qSc p (dgs x u (u + d) ++ rest) i c = qSc p rest (i + d) (if d = 0 then c else dgt x (u + d - 1))
  | 0, u, i, c, _, _, _ => by rw [Nat.add_zero, dgs_self]; simp
  | d + 1, u, i, c, h80, hi, hc => by
    rw [dgs_head x u (u + (d + 1)) (by omega), List.cons_append, qSc_cons]
    have h := dgt_or x u
    rw [if_neg (by omega), if_neg (fun hb => by
      rcases hb with hb | ⟨hb, hb2⟩
      · rcases h with h | h <;> rw [h] at hb <;> exact absurd hb (by decide)
      · rcases hc hb2 with h2 | h2
        · rw [h2] at hb; exact absurd hb (by decide)
        · omega)]
    have hnext : dgt x u = 49 → dgt x (u + 1) = 48 ∨ d = 0 := fun h49 => by
      by_cases hd : d = 0
      · exact .inr hd
      · exact .inl (dgt_apart x hx hn u (by omega) h49)
    have := qSc_dgs x hx hn p rest d (u + 1) (i + 1) (dgt x u) (by omega) (by omega) hnext
    rw [show u + (d + 1) = u + 1 + d by omega, this]
    rw [show i + 1 + (d : Int) = i + ((d + 1 : Nat) : Int) by omega, if_neg (show ¬ (d + 1 = 0) by omega)]
    by_cases hd : d = 0
    · subst hd; simp
    · rw [if_neg hd]
theorem dgs_at (x : Int × Int) (a b i : Nat) (h : i < b - a) : (dgs x a b)[i]?.getD 0 = dgt x (a + i) := by
  simp [dgs, List.getElem?_range h]
theorem plain_is (x : Int × Int) (hx : sm2 1000000 x) (hn : nn x) (n0 n1 : Nat) (h : Span x n0 n1) : plB (txt x n0 n1) = true := by
  obtain ⟨h0, h1, h2, low, first, high, last⟩ := h
  obtain ⟨a, ha⟩ : ∃ a, n0 + a = 40 := ⟨40 - n0, by omega⟩
  have hfirst : (dgs x n0 40 ++ (if n1 ≤ 40 then [] else 46 :: dgs x 40 n1))[0]?.getD 0 = dgt x n0 := by
    rw [dgs_head x n0 40 (by omega)]; simp
  have htxt : txt x n0 n1 = dgs x n0 40 ++ (if n1 ≤ 40 then [] else 46 :: dgs x 40 n1) := by
    unfold txt
    by_cases hc : n1 ≤ 40
    · obtain rfl : n1 = 40 := by omega
      simp
    · rw [if_neg hc, if_neg hc]
  by_cases hc : n1 ≤ 40
  · obtain rfl : n1 = 40 := by omega
    rw [htxt, if_pos (Nat.le_refl _)] at *
    rw [List.append_nil] at hfirst ⊢
    have hl : (dgs x n0 40).length = a := by rw [dgs_length]; omega
    have e1 := pSc_dgs x a a [] a n0 0
    rw [ha, List.append_nil] at e1
    have hp : ptI (dgs x n0 40) = a := by
      unfold ptI
      rw [hl, e1]
      show (if (a : Int) < 1 ∨ 40 < (a : Int) ∨ (a : Int) = a - 1 ∨ 40 < (a : Int) - a - 1 then (-1 : Int) else a) = a
      rw [if_neg (by omega)]
    have e2 := qSc_dgs x hx hn a [] a n0 0 48 (by omega) (by omega) (fun h => absurd h (by decide))
    rw [ha, List.append_nil] at e2
    unfold plB
    rw [hp, hl, e2, hfirst]
    show (true && (decide (0 ≤ (a : Int)) && ((!decide (dgt x n0 = 48) || decide ((a : Int) = 1)) && (decide ((a : Int) = a) || _)))) = true
    have g1 : decide (0 ≤ (a : Int)) = true := by simp
    have g3 : (!decide (dgt x n0 = 48) || decide ((a : Int) = 1)) = true := by
      by_cases h39 : n0 < 39
      · rw [first h39]; rfl
      · have : (a : Int) = 1 := by omega
        rw [this]; simp
    rw [g1, g3]; simp
  · have hb : 40 < n1 := by omega
    obtain ⟨b, hb2⟩ : ∃ b, 40 + b = n1 := ⟨n1 - 40, by omega⟩
    rw [htxt, if_neg hc] at *
    have hl : (dgs x n0 40 ++ 46 :: dgs x 40 n1).length = a + 1 + b := by rw [List.length_append, List.length_cons, dgs_length, dgs_length]; omega
    have e1 := pSc_dgs x (a + 1 + b : Nat) (a + 1 + b : Nat) (46 :: dgs x 40 n1) a n0 0
    rw [ha, pSc_cons, if_pos ⟨rfl, rfl⟩] at e1
    have e3 := pSc_dgs x (a + 1 + b : Nat) (0 + (a : Int)) [] b 40 (0 + (a : Int) + 1)
    rw [hb2, List.append_nil] at e3
    rw [e3] at e1
    have hp : ptI (dgs x n0 40 ++ 46 :: dgs x 40 n1) = a := by
      unfold ptI
      rw [hl, e1]
      show (if (0 + (a : Int)) < 1 ∨ 40 < (0 + (a : Int)) ∨ (0 + (a : Int)) = ((a + 1 + b : Nat) : Int) - 1 ∨ 40 < ((a + 1 + b : Nat) : Int) - (0 + (a : Int)) - 1 then (-1 : Int) else 0 + (a : Int)) = a
      rw [if_neg (by omega)]; omega
    have e2 := qSc_dgs x hx hn a (46 :: dgs x 40 n1) a n0 0 48 (by omega) (by omega) (fun h => absurd h (by decide))
    rw [ha, qSc_cons, if_pos (by omega)] at e2
    have e4 := qSc_dgs x hx hn a [] b 40 (0 + (a : Int) + 1) (if a = 0 then 48 else dgt x (40 - 1)) (by omega) (by omega) (fun h => by
      rw [if_neg (by omega)] at h
      exact .inl (dgt_apart x hx hn 39 (by omega) h))
    rw [hb2, List.append_nil] at e4
    rw [e4] at e2
    have hlast : (dgs x n0 40 ++ 46 :: dgs x 40 n1)[a + 1 + b - 1]?.getD 0 = dgt x (n1 - 1) := by
      rw [List.getElem?_append_right (by rw [dgs_length]; omega), dgs_length, show a + 1 + b - 1 - (40 - n0) = b - 1 + 1 by omega, List.getElem?_cons_succ, dgs_at x 40 n1 (b - 1) (by omega), show 40 + (b - 1) = n1 - 1 by omega]
    unfold plB
    rw [hp, hl, e2, hfirst, hlast, last hb]
    show (true && (decide (0 ≤ (a : Int)) && ((!decide (dgt x n0 = 48) || decide ((a : Int) = 1)) && (_ || true)))) = true
    have g1 : decide (0 ≤ (a : Int)) = true := by simp
    have g3 : (!decide (dgt x n0 = 48) || decide ((a : Int) = 1)) = true := by
      by_cases h39 : n0 < 39
      · rw [first h39]; rfl
      · have : (a : Int) = 1 := by omega
        rw [this]; simp
    rw [g1, g3]; simp
/-- Each number that is not less than 0 has such a span. -/
theorem span_of (x : Int × Int) (hx : sm2 1000000 x) (hn : nn x) : ∃ n0 n1, Span x n0 n1 ∧ (xr x 40 = (0, 0) → n1 = 40) ∧ (n0 < 39 → nn (minusG x (pw ((39 - n0 : Nat) : Int)))) ∧ po (minusG (pw ((40 - n0 : Nat) : Int)) x) := by
  have h33 := num_32 x hx
  have hk : ∃ m : Nat, m ≤ 39 ∧ po (minusG (pw ((m + 1 : Nat) : Int)) x) ∧ (m = 0 ∨ nn (minusG x (pw (m : Int)))) := by
    have key : ∀ d : Nat, d ≤ 32 → (∃ m : Nat, m ≤ 39 ∧ po (minusG (pw ((m + 1 : Nat) : Int)) x) ∧ (m = 0 ∨ nn (minusG x (pw (m : Int))))) ∨ po (minusG (pw ((33 - d : Nat) : Int)) x) := by
      intro d
      induction d with
      | zero => intro _; exact .inr h33
      | succ d ih =>
        intro hd
        rcases ih (by omega) with h | h
        · exact .inl h
        · by_cases hc : nn (minusG x (pw ((32 - d : Nat) : Int)))
          · exact .inl ⟨32 - d, by omega, by rw [show 32 - d + 1 = 33 - d by omega]; exact h, .inr hc⟩
          · exact .inr (by rw [show 33 - (d + 1) = 32 - d by omega]; exact not_nn hc (by simp only [minusG]; omega) (by simp only [minusG]; omega))
    rcases key 32 (by omega) with h | h
    · exact h
    · exact ⟨0, by omega, h, .inl rfl⟩
  obtain ⟨m, hm, h1, h2⟩ := hk
  have hst := xr_start x m (by omega) h1
  have hx0 : xr x (39 - m) = x := congrArg Prod.fst (hst (39 - m) (Nat.le_refl _)).1
  have hend : ∃ n1 : Nat, 40 ≤ n1 ∧ n1 ≤ 80 ∧ xr x n1 = (0, 0) ∧ (40 < n1 → xr x (n1 - 1) ≠ (0, 0)) := by
    have key : ∀ d : Nat, d ≤ 40 → (∃ n1 : Nat, 40 ≤ n1 ∧ n1 ≤ 80 ∧ xr x n1 = (0, 0) ∧ (40 < n1 → xr x (n1 - 1) ≠ (0, 0))) ∨ xr x (80 - d) = (0, 0) := by
      intro d
      induction d with
      | zero => intro _; exact .inr (xr_end x hx hn)
      | succ d ih =>
        intro hd
        rcases ih (by omega) with h | h
        · exact .inl h
        · by_cases hc : xr x (80 - (d + 1)) = (0, 0)
          · exact .inr hc
          · exact .inl ⟨80 - d, by omega, by omega, h, fun _ => by rw [show 80 - d - 1 = 80 - (d + 1) by omega]; exact hc⟩
    rcases key 40 (by omega) with h | h
    · exact h
    · exact ⟨40, by omega, by omega, h, fun h => by omega⟩
  obtain ⟨n1, e1, e2, e3, e4⟩ := hend
  refine ⟨39 - m, n1, ⟨by omega, e1, e2, fun i hi => (hst i (by omega)).2 hi, fun h39 => ?_, fun i g1 g2 => (xr_nil x n1 e3 i g1 (by omega)).2 g2, fun g1 => ?_⟩, fun h40 => ?_, fun h39 => ?_, ?_⟩
  · rcases h2 with h | h
    · omega
    · have hc : nn (minusG (xr x (39 - m)) (pw (39 - ((39 - m : Nat) : Int)))) := by rw [hx0, show (39 : Int) - ((39 - m : Nat) : Int) = (m : Int) by omega]; exact h
      unfold dgt; rw [if_pos hc]
  · by_cases hc : nn (minusG (xr x (n1 - 1)) (pw (39 - ((n1 - 1 : Nat) : Int))))
    · unfold dgt; rw [if_pos hc]
    · exfalso
      have := congrArg Prod.fst (xr_no x (n1 - 1) (by omega) hc)
      rw [show n1 - 1 + 1 = n1 by omega, show (prJ x n1).1 = xr x n1 from rfl, show (prJ x (n1 - 1)).1 = xr x (n1 - 1) from rfl, e3] at this
      exact e4 g1 this.symm
  · rcases Nat.lt_or_ge 40 n1 with g | g
    · exact absurd (xr_nil x 40 h40 (n1 - 1) (by omega) (by omega)).1 (e4 g)
    · omega
  · rcases h2 with h | h
    · omega
    · rw [show 39 - (39 - m) = m by omega]; exact h
  · rw [show 40 - (39 - m) = m + 1 by omega]; exact h1
theorem xr_40 (x : Int × Int) (hx : sm2 1000000 x) (hn : nn x) : xr x 40 = (tp 33 (x, [])).1 := by
  have h32 : po (minusG (pw ((33 : Nat) : Int)) x) := num_32 x hx
  have : prJ x 40 = tp 40 (x, []) := by
    unfold prJ tp
    rw [pdn_cut, List.take_left' (by rw [pdn_length])]
    rfl
  unfold xr
  rw [this]
  have key : ∀ d, d ≤ 7 → tp (33 + d) (x, []) = tp 33 (x, []) := by
    intro d
    induction d with
    | zero => intro _; rfl
    | succ d ih =>
      intro hd
      have h2 := pw_up 33 (33 + d) (by omega) (by omega)
      rw [← Nat.add_assoc, tp_succ, prS_lo x [] _ (po_sum h32 h2 (by simp only [minusG]; omega) (by simp only [minusG]; omega)), ih (by omega)]
  rw [key 7 (by omega)]
theorem rung_whole (k : Int) (h0 : 0 ≤ k) (h1 : k ≤ 1000000) (hs : sm2 1000000 (rungG k)) (hn : nn (rungG k)) : xr (rungG k) 40 = (0, 0) := by
  rw [xr_40 _ hs hn]
  have p33 : posP ((33 : Nat) : Int) = 9227465 := by decide +kernel
  obtain ⟨c1, c2, c3, c4, c5, c6⟩ := srch 33 (by omega) (rungG k) hn (num_32 _ hs)
  rw [p33] at c2 c6
  generalize tp 33 (rungG k, []) = s at *
  obtain ⟨r, l⟩ := s
  simp only at *
  have e1 : gm 33 (psum l) = rungG (psum l) := (rung_gm 33 (by omega) _ (by rw [p33]; omega)).symm
  rw [e1] at c3
  have hk : psum l = k := by
    rcases Int.lt_trichotomy (psum l) k with h | h | h
    · exfalso
      rw [if_pos (by omega), ← rung_gm 33 (by omega) (psum l + 1) (by rw [p33]; omega)] at c6
      have := rung_le (psum l + 1) k (by omega) (by omega) (by omega)
      exact nn_not this (by simp only [minusG]; omega) (by simp only [minusG]; omega) c6
    · exact h
    · exfalso
      have := rung_asc k (psum l) h0 h (by omega)
      rw [c3] at this
      exact nn_not c4 (by simp only [minusG]; omega) (by simp only [minusG]; omega) this
  rw [hk] at c3
  have g1 := congrArg Prod.fst c3
  have g2 := congrArg Prod.snd c3
  simp only [minusG] at g1 g2
  exact Prod.ext (by simp only; omega) (by simp only; omega)

/-- The step behind the position k, up to the power of m. -/
def gpm (m : Nat) (k : Int) : Int × Int := if k + 1 < posP m then minusG (gm m (k + 1)) (gm m k) else minusG (pw m) (gm m k)
theorem gpm_lo (m : Nat) (hm : m + 2 ≤ 36) (k : Int) (h0 : 0 ≤ k) (h : k < posP ((m + 1 : Nat) : Int)) : gpm (m + 2) k = gpm (m + 1) k := by
  have hP := posP_rec2 m (by omega)
  have p0 := posP_pos m (by omega)
  unfold gpm
  rw [if_pos (by omega), gm_lo (m + 1) k h]
  by_cases hc : k + 1 < posP ((m + 1 : Nat) : Int)
  · rw [if_pos hc, gm_lo (m + 1) _ hc]
  · rw [if_neg hc, gm_hi (m + 1) _ (by omega), show k + 1 - posP ((m + 1 : Nat) : Int) = 0 by omega, gm_at0 _ (by omega), ad_zero]
theorem gpm_hi (m : Nat) (hm : m + 2 ≤ 36) (k : Int) (h : posP ((m + 1 : Nat) : Int) ≤ k) (h2 : k < posP ((m + 2 : Nat) : Int)) : gpm (m + 2) k = gpm m (k - posP ((m + 1 : Nat) : Int)) := by
  have hP := posP_rec2 m (by omega)
  have hW := pw_rec2 m
  unfold gpm
  rw [gm_hi (m + 1) k h, gm_lo m _ (by omega)]
  by_cases hc : k + 1 < posP ((m + 2 : Nat) : Int)
  · rw [if_pos hc, if_pos (by omega), gm_hi (m + 1) _ (by omega), gm_lo m _ (by omega), show k + 1 - posP ((m + 1 : Nat) : Int) = k - posP ((m + 1 : Nat) : Int) + 1 by omega]
    unfold minusG ad
    apply Prod.ext <;> simp only <;> omega
  · rw [if_neg hc, if_neg (by omega), hW]
    unfold minusG ad
    apply Prod.ext <;> simp only <;> omega
theorem gpm_all : ∀ (m : Nat), m ≤ 36 → (∀ k, 0 ≤ k → k < posP m → gpm m k = (1, 0) ∨ gpm m k = (-1, 1)) ∧ gpm m 0 = (1, 0) ∧ (∀ k, 0 ≤ k → k + 1 < posP m → gpm m k = (-1, 1) → gpm m (k + 1) = (1, 0))
  | 0, _ => by
    have h0 : gpm 0 0 = (1, 0) := by decide +kernel
    rw [posP_zero]
    refine ⟨fun k h1 h2 => ?_, h0, fun k h1 h2 => by omega⟩
    obtain rfl : k = 0 := by omega
    exact .inl h0
  | 1, _ => by
    have h0 : gpm 1 0 = (1, 0) := by decide +kernel
    have h1 : gpm 1 1 = (-1, 1) := by decide +kernel
    rw [posP_one]
    refine ⟨fun k g1 g2 => ?_, h0, fun k g1 g2 g3 => ?_⟩
    · rcases (show k = 0 ∨ k = 1 by omega) with rfl | rfl
      · exact .inl h0
      · exact .inr h1
    · obtain rfl : k = 0 := by omega
      rw [h0] at g3
      exact absurd g3 (by decide)
  | m + 2, hm => by
    obtain ⟨a1, a2, a3⟩ := gpm_all (m + 1) (by omega)
    obtain ⟨b1, b2, b3⟩ := gpm_all m (by omega)
    have hP := posP_rec2 m (by omega)
    have p0 := posP_pos m (by omega)
    have p1 := posP_pos (m + 1) (by omega)
    refine ⟨fun k g1 g2 => ?_, ?_, fun k g1 g2 g3 => ?_⟩
    · rcases Int.lt_or_le k (posP ((m + 1 : Nat) : Int)) with h | h
      · rw [gpm_lo m hm k g1 h]; exact a1 k g1 h
      · rw [gpm_hi m hm k h g2]; exact b1 _ (by omega) (by omega)
    · rw [gpm_lo m hm 0 (by omega) (by omega)]; exact a2
    · rcases Int.lt_or_le (k + 1) (posP ((m + 1 : Nat) : Int)) with h | h
      · rw [gpm_lo m hm k g1 (by omega)] at g3
        rw [gpm_lo m hm (k + 1) (by omega) h]
        exact a3 k g1 h g3
      · rcases Int.lt_or_le k (posP ((m + 1 : Nat) : Int)) with h' | h'
        · rw [gpm_hi m hm (k + 1) h g2, show k + 1 - posP ((m + 1 : Nat) : Int) = 0 by omega]
          exact b2
        · rw [gpm_hi m hm k h' (by omega)] at g3
          rw [gpm_hi m hm (k + 1) h g2, show k + 1 - posP ((m + 1 : Nat) : Int) = k - posP ((m + 1 : Nat) : Int) + 1 by omega]
          exact b3 _ (by omega) (by omega) g3
/-- The steps of the ladder. -/
theorem rung_steps (k : Int) (h0 : 0 ≤ k) (h1 : k ≤ 1000000) : (minusG (rungG (k + 1)) (rungG k) = (1, 0) ∨ minusG (rungG (k + 1)) (rungG k) = (-1, 1)) ∧ (minusG (rungG (k + 1)) (rungG k) = (-1, 1) → minusG (rungG (k + 2)) (rungG (k + 1)) = (1, 0)) := by
  have p33 : posP ((33 : Nat) : Int) = 9227465 := by decide +kernel
  obtain ⟨a1, a2, a3⟩ := gpm_all 33 (by omega)
  rw [p33] at a1 a3
  have e : ∀ j, 0 ≤ j → j ≤ 1000001 → gpm 33 j = minusG (rungG (j + 1)) (rungG j) := fun j g1 g2 => by
    unfold gpm
    rw [p33, if_pos (by omega), ← rung_gm 33 (by omega) _ (by rw [p33]; omega), ← rung_gm 33 (by omega) _ (by rw [p33]; omega)]
  have b1 := a1 k h0 (by omega)
  have b3 := a3 k h0 (by omega)
  rw [e k h0 (by omega)] at b1 b3
  rw [e (k + 1) (by omega) (by omega), show k + 1 + 1 = k + 2 by omega] at b3
  exact ⟨b1, b3⟩
end Go.Proofs.YtfekggmdhmkemaaDoor
