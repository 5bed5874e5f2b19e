/- The mathematics of the ladder: it ascends, and the search for a number's place on it ends between two of its values. -/
import Derived.Test.YtfekggmdhmkemaaDoorWa
import Derived.Test.YtfekggmdhmkemaaDoorXa
import Derived.Test.YtfekggmdhmkemaaDoorGn
namespace Go.Proofs.YtfekggmdhmkemaaDoor
open Go.RowKit
set_option linter.unusedVariables false
set_option linter.unusedSimpArgs false

/-- x is greater than 0; x is not less than 0; sums. -/
def po (x : Int × Int) : Prop := 0 < sgn x.1 x.2
def nn (x : Int × Int) : Prop := 0 ≤ sgn x.1 x.2
def ad (x y : Int × Int) : Int × Int := (x.1 + y.1, x.2 + y.2)
instance poDec (x : Int × Int) : Decidable (po x) := inferInstanceAs (Decidable (0 < sgn x.1 x.2))
instance nnDec (x : Int × Int) : Decidable (nn x) := inferInstanceAs (Decidable (0 ≤ sgn x.1 x.2))
theorem po_nn {x : Int × Int} (h : po x) : nn x := Int.le_of_lt h
theorem nn_sum {x y z : Int × Int} (h1 : nn x) (h2 : nn y) (e1 : z.1 = x.1 + y.1) (e2 : z.2 = x.2 + y.2) : nn z := by
  unfold nn at *; rw [e1, e2]; exact sgn_add _ _ _ _ h1 h2
theorem po_sum {x y z : Int × Int} (h1 : po x) (h2 : nn y) (e1 : z.1 = x.1 + y.1) (e2 : z.2 = x.2 + y.2) : po z := by
  have h := nn_sum (po_nn h1) h2 e1 e2
  rcases Int.lt_or_le 0 (sgn z.1 z.2) with h3 | h3
  · exact h3
  · exfalso
    have h4 : sgn z.1 z.2 = 0 := by unfold nn at h; omega
    obtain ⟨h5, h6⟩ := (sgn_zero _ _).1 h4
    have e3 : x.1 = -y.1 := by omega
    have e4 : x.2 = -y.2 := by omega
    unfold po at h1
    unfold nn at h2
    rw [e3, e4, sgn_neg] at h1
    omega
theorem po_sum2 {x y z : Int × Int} (h1 : nn x) (h2 : po y) (e1 : z.1 = x.1 + y.1) (e2 : z.2 = x.2 + y.2) : po z := po_sum h2 h1 (by omega) (by omega)
theorem not_po {x z : Int × Int} (h : ¬ po x) (e1 : z.1 = -x.1) (e2 : z.2 = -x.2) : nn z := by
  unfold nn po at *; rw [e1, e2, sgn_neg]; omega
theorem not_nn {x z : Int × Int} (h : ¬ nn x) (e1 : z.1 = -x.1) (e2 : z.2 = -x.2) : po z := by
  unfold nn po at *; rw [e1, e2, sgn_neg]; omega
theorem po_not {x z : Int × Int} (h : po x) (e1 : z.1 = -x.1) (e2 : z.2 = -x.2) : ¬ nn z := by
  unfold nn po at *; rw [e1, e2, sgn_neg]; omega
theorem nn_zero : nn (0, 0) := by decide
theorem nn_not {x z : Int × Int} (h : nn x) (e1 : z.1 = -x.1) (e2 : z.2 = -x.2) : ¬ po z := by
  unfold nn po at *; rw [e1, e2, sgn_neg]; omega
theorem pw_succ (k : Int) : pw (k + 1) = ((pw k).2, (pw k).1 + (pw k).2) := by
  have h := pw_pred (k + 1)
  rw [show k + 1 - 1 = k by omega] at h
  rw [h]
  apply Prod.ext <;> simp
theorem pw_next (k : Int) : pw (k + 2) = ad (pw (k + 1)) (pw k) := by
  rw [show k + 2 = k + 1 + 1 by omega, pw_succ (k + 1), pw_succ k]
  unfold ad
  apply Prod.ext <;> simp <;> omega
theorem pw_po_all : ((List.range 81).all fun n : Nat => decide (0 < sgn (pw ((n : Int) - 40)).1 (pw ((n : Int) - 40)).2)) = true := by decide +kernel
theorem pw_po (e : Int) (h1 : -40 ≤ e) (h2 : e ≤ 40) : po (pw e) := by
  have := List.all_eq_true.1 pw_po_all (e + 40).toNat (by rw [List.mem_range]; omega)
  rw [show (((e + 40).toNat : Nat) : Int) - 40 = e by omega] at this
  simpa [po] using this
theorem pw_ge_all : ((List.range 41).all fun n : Nat => decide (0 ≤ (pw (n : Int)).1) && decide (0 ≤ (pw (n : Int)).2)) = true := by decide +kernel
theorem pw_ge (n : Nat) (h : n ≤ 40) : 0 ≤ (pw (n : Int)).1 ∧ 0 ≤ (pw (n : Int)).2 := by
  have := List.all_eq_true.1 pw_ge_all n (by rw [List.mem_range]; omega)
  simpa using this

/-- The ladder's search from the exponent m - 1 on. -/
def tl (m : Nat) (s : Int × (Int × Int)) : Int × (Int × Int) := (pdn ((m : Int) - 1) m).foldl rgS s
def gm (m : Nat) (k : Int) : Int × Int := (tl m (k, (0, 0))).2
theorem pdn_cons (f : Int) (n : Nat) : pdn f (n + 1) = f :: pdn (f - 1) n := by
  simp only [pdn, List.range_succ_eq_map, List.map_cons, List.map_map]
  congr 1
  · simp
  · apply List.map_congr_left
    intro i _
    simp only [Function.comp]
    omega
theorem tl_succ (m : Nat) (s : Int × (Int × Int)) : tl (m + 1) s = tl m (rgS s m) := by
  unfold tl
  rw [show ((m + 1 : Nat) : Int) - 1 = (m : Int) by omega, pdn_cons]
  rfl
theorem rungG_gm (k : Int) : rungG k = gm 40 k := by
  unfold rungG rgJ gm tl
  rw [List.take_of_length_le (by rw [pdn_length]; exact Nat.le_refl _)]
  rfl
theorem ad_zero (x : Int × Int) : ad x (0, 0) = x := by unfold ad; simp
theorem ad_assoc (x y z : Int × Int) : ad (ad x y) z = ad x (ad y z) := by unfold ad; apply Prod.ext <;> simp <;> omega
theorem rgS_ad (k : Int) (a : Int × Int) (m : Nat) : rgS (k, a) m = if posP m ≤ k then (k - posP m, ad a (pw m)) else (k, a) := rfl
theorem zero_ad (x : Int × Int) : ad (0, 0) x = x := by unfold ad; simp
theorem tl_add : ∀ (m : Nat) (k : Int) (a : Int × Int), tl m (k, a) = ((tl m (k, (0, 0))).1, ad a (gm m k))
  | 0, k, a => by show (k, a) = (k, ad a (0, 0)); rw [ad_zero]
  | m + 1, k, a => by
    unfold gm
    rw [tl_succ, tl_succ, rgS_ad, rgS_ad]
    split
    · rw [tl_add m _ (ad a (pw m)), tl_add m _ (ad (0, 0) (pw m)), ad_assoc, zero_ad]
    · rw [tl_add m k a]; rfl
theorem gm_lo (m : Nat) (k : Int) (h : k < posP m) : gm (m + 1) k = gm m k := by
  unfold gm; rw [tl_succ, rgS_ad, if_neg (by omega)]
theorem gm_hi (m : Nat) (k : Int) (h : posP m ≤ k) : gm (m + 1) k = ad (pw m) (gm m (k - posP m)) := by
  unfold gm; rw [tl_succ, rgS_ad, if_pos h, tl_add, zero_ad]; rfl
theorem gm_small (j : Nat) (k : Int) (h : k < posP j) : ∀ d, j + d ≤ 40 → gm (j + d) k = gm j k
  | 0, _ => rfl
  | d + 1, hd => by
    have := posP_mono j (j + d) (by omega) (by omega)
    rw [← Nat.add_assoc, gm_lo _ _ (by omega), gm_small j k h d (by omega)]
theorem posP_zero : posP ((0 : Nat) : Int) = 1 := by decide +kernel
theorem posP_one : posP ((1 : Nat) : Int) = 2 := by decide +kernel
theorem gm_at0 (m : Nat) (hm : m ≤ 40) : gm m 0 = (0, 0) := by
  have := gm_small 0 0 (by rw [posP_zero]; decide) m (by omega)
  rw [Nat.zero_add] at this
  rw [this]; rfl
theorem gm_11 : gm 1 1 = (1, 0) := by decide +kernel
theorem pw_0 : pw ((0 : Nat) : Int) = (1, 0) := by decide +kernel
theorem pw_1 : pw ((1 : Nat) : Int) = (0, 1) := by decide +kernel
theorem posP_rec2 (m : Nat) (h : m < 36) : posP ((m + 2 : Nat) : Int) = posP ((m + 1 : Nat) : Int) + posP (m : Int) := by
  have := posP_rec m h
  rw [show ((m + 2 : Nat) : Int) = (m : Int) + 2 by omega, show ((m + 1 : Nat) : Int) = (m : Int) + 1 by omega]
  exact this
theorem pw_rec2 (m : Nat) : pw ((m + 2 : Nat) : Int) = ad (pw ((m + 1 : Nat) : Int)) (pw (m : Int)) := pw_next m
theorem lad : ∀ (m : Nat), m ≤ 36 → (∀ k, 0 ≤ k → k < posP m → nn (gm m k) ∧ po (minusG (pw m) (gm m k))) ∧ (∀ k k', 0 ≤ k → k < k' → k' < posP m → po (minusG (gm m k') (gm m k)))
  | 0, _ => by
    rw [posP_zero]
    refine ⟨fun k h1 h2 => ?_, fun k k' h1 h2 h3 => by omega⟩
    obtain rfl : k = 0 := by omega
    rw [gm_at0 0 (by omega), pw_0]
    exact ⟨by decide, by decide⟩
  | 1, _ => by
    rw [posP_one]
    refine ⟨fun k h1 h2 => ?_, fun k k' h1 h2 h3 => ?_⟩
    · rw [pw_1]
      rcases (show k = 0 ∨ k = 1 by omega) with rfl | rfl
      · rw [gm_at0 1 (by omega)]; exact ⟨by decide, by decide⟩
      · rw [gm_11]; exact ⟨by decide, by decide⟩
    · obtain rfl : k = 0 := by omega
      obtain rfl : k' = 1 := by omega
      rw [gm_at0 1 (by omega), gm_11]; decide
  | m + 2, hm => by
    obtain ⟨a1, a2⟩ := lad (m + 1) (by omega)
    obtain ⟨b1, b2⟩ := lad m (by omega)
    have hP := posP_rec2 m (by omega)
    have hW := pw_rec2 m
    have p1 := posP_pos (m + 1) (by omega)
    have w1 := pw_po ((m + 1 : Nat) : Int) (by omega) (by omega)
    have w0 := pw_po (m : Int) (by omega) (by omega)
    have hi : ∀ k, posP ((m + 1 : Nat) : Int) ≤ k → k < posP ((m + 2 : Nat) : Int) → gm (m + 2) k = ad (pw ((m + 1 : Nat) : Int)) (gm m (k - posP ((m + 1 : Nat) : Int))) := fun k h1 h2 => by
      rw [gm_hi (m + 1) k h1, gm_lo m _ (by omega)]
    refine ⟨fun k h1 h2 => ?_, fun k k' h1 h2 h3 => ?_⟩
    · rcases Int.lt_or_le k (posP ((m + 1 : Nat) : Int)) with h | h
      · obtain ⟨c1, c2⟩ := a1 k h1 h
        rw [gm_lo (m + 1) k h]
        refine ⟨c1, po_sum c2 (po_nn w0) ?_ ?_⟩ <;> rw [hW] <;> simp only [minusG, ad] <;> omega
      · obtain ⟨c1, c2⟩ := b1 (k - posP ((m + 1 : Nat) : Int)) (by omega) (by omega)
        rw [hi k h h2]
        refine ⟨po_nn (po_sum w1 c1 rfl rfl), po_sum c2 nn_zero ?_ ?_⟩ <;> rw [hW] <;> simp only [minusG, ad] <;> omega
    · rcases Int.lt_or_le k' (posP ((m + 1 : Nat) : Int)) with h | h
      · rw [gm_lo (m + 1) k (by omega), gm_lo (m + 1) k' h]
        exact a2 k k' h1 h2 h
      · rw [hi k' h h3]
        rcases Int.lt_or_le k (posP ((m + 1 : Nat) : Int)) with h' | h'
        · obtain ⟨c1, c2⟩ := a1 k h1 h'
          obtain ⟨d1, d2⟩ := b1 (k' - posP ((m + 1 : Nat) : Int)) (by omega) (by omega)
          rw [gm_lo (m + 1) k h']
          refine po_sum c2 d1 ?_ ?_ <;> simp only [minusG, ad] <;> omega
        · rw [hi k h' (by omega)]
          have c := b2 (k - posP ((m + 1 : Nat) : Int)) (k' - posP ((m + 1 : Nat) : Int)) (by omega) (by omega) (by omega)
          refine po_sum c nn_zero ?_ ?_ <;> simp only [minusG, ad] <;> omega
theorem rung_gm (m : Nat) (hm : m ≤ 40) (k : Int) (h : k < posP m) : rungG k = gm m k := by
  have := gm_small m k h (40 - m) (by omega)
  rw [show m + (40 - m) = 40 by omega] at this
  rw [rungG_gm, this]
theorem rung_up (k k' : Int) (h1 : 0 ≤ k) (h2 : k < k') (h3 : k' < posP ((36 : Nat) : Int)) : po (minusG (rungG k') (rungG k)) := by
  rw [rung_gm 36 (by omega) k (by omega), rung_gm 36 (by omega) k' h3]
  exact (lad 36 (by omega)).2 k k' h1 h2 h3

/-- A value of the ladder tells its position. -/
theorem gm_pos : ∀ (m : Nat), m ≤ 36 → ∀ k, 0 ≤ k → k < posP m → (gm m k).1 + 2 * (gm m k).2 = k ∧ 0 ≤ (gm m k).1 ∧ 0 ≤ (gm m k).2
  | 0, _, k, h1, h2 => by
    rw [posP_zero] at h2
    obtain rfl : k = 0 := by omega
    rw [gm_at0 0 (by omega)]; decide
  | 1, _, k, h1, h2 => by
    rw [posP_one] at h2
    rcases (show k = 0 ∨ k = 1 by omega) with rfl | rfl
    · rw [gm_at0 1 (by omega)]; decide
    · rw [gm_11]; decide
  | m + 2, hm, k, h1, h2 => by
    have hP := posP_rec2 m (by omega)
    have p0 := posP_pos m (by omega)
    rcases Int.lt_or_le k (posP ((m + 1 : Nat) : Int)) with h | h
    · rw [gm_lo (m + 1) k h]; exact gm_pos (m + 1) (by omega) k h1 h
    · have hd : posP ((m + 1 : Nat) : Int) = (pw ((m + 1 : Nat) : Int)).1 + 2 * (pw ((m + 1 : Nat) : Int)).2 := rfl
      have hg := pw_ge (m + 1) (by omega)
      obtain ⟨c1, c2, c3⟩ := gm_pos m (by omega) (k - posP ((m + 1 : Nat) : Int)) (by omega) (by omega)
      rw [gm_hi (m + 1) k h, gm_lo m _ (by omega)]
      unfold ad
      simp only
      omega
theorem posP_36 : (10000000 : Int) < posP ((36 : Nat) : Int) := by decide +kernel
theorem posP_30 : posP ((30 : Nat) : Int) = 2178309 := by decide +kernel
theorem rung_pos (k : Int) (h1 : 0 ≤ k) (h2 : k ≤ 10000000) : (rungG k).1 + 2 * (rungG k).2 = k ∧ 0 ≤ (rungG k).1 ∧ 0 ≤ (rungG k).2 := by
  have := posP_36
  rw [rung_gm 36 (by omega) k (by omega)]
  exact gm_pos 36 (by omega) k h1 (by omega)
theorem rung_asc (k k' : Int) (h1 : 0 ≤ k) (h2 : k < k') (h3 : k' ≤ 10000000) : po (minusG (rungG k') (rungG k)) := rung_up k k' h1 h2 (by have := posP_36; omega)
theorem rung_le (k k' : Int) (h1 : 0 ≤ k) (h2 : k ≤ k') (h3 : k' ≤ 10000000) : nn (minusG (rungG k') (rungG k)) := by
  rcases Int.lt_or_le k k' with h | h
  · exact po_nn (rung_asc k k' h1 h h3)
  · obtain rfl : k = k' := by omega
    unfold minusG nn
    simp only [Int.sub_self]
    exact nn_zero
/-- Where a number stands on the ladder, is one place alone. -/
def Place (x : Int × Int) (n : Int) : Prop := 1 ≤ n ∧ n ≤ 5000000 ∧ po (minusG x (rungG (n - 1))) ∧ nn (minusG (rungG n) x)
theorem place_one (x : Int × Int) (n m : Int) (h : Place x n) (h' : Place x m) : n = m := by
  have key : ∀ a b, Place x a → Place x b → ¬ a < b := by
    rintro a b ⟨a1, a2, a3, a4⟩ ⟨b1, b2, b3, b4⟩ hlt
    have h1 := rung_le a (b - 1) (by omega) (by omega) (by omega)
    have h2 : nn (minusG (rungG (b - 1)) x) := nn_sum h1 a4 (by simp only [minusG]; omega) (by simp only [minusG]; omega)
    exact nn_not h2 (by simp only [minusG]; omega) (by simp only [minusG]; omega) b3
  have := key n m h h'
  have := key m n h' h
  omega
/-- The search for the powers of a number from the exponent m - 1 on. -/
def tp (m : Nat) (s : (Int × Int) × List Int) : (Int × Int) × List Int := (pdn ((m : Int) - 1) m).foldl prS s
def psum (l : List Int) : Int := (l.map posP).sum
theorem psum_cons (e : Int) (l : List Int) : psum (e :: l) = posP e + psum l := by simp [psum]
theorem tp_succ (m : Nat) (s : (Int × Int) × List Int) : tp (m + 1) s = tp m (prS s m) := by
  unfold tp
  rw [show ((m + 1 : Nat) : Int) - 1 = (m : Int) by omega, pdn_cons]
  rfl
theorem prS_lo (x : Int × Int) (l : List Int) (e : Int) (h : po (minusG (pw e) x)) : prS (x, l) e = (x, l) := by
  unfold prS
  rw [if_pos]
  unfold po minusG at h
  have := sgn_neg ((pw e).1 - x.1) ((pw e).2 - x.2)
  rw [show -((pw e).1 - x.1) = x.1 - (pw e).1 by omega, show -((pw e).2 - x.2) = x.2 - (pw e).2 by omega] at this
  simp only at h ⊢
  omega
theorem prS_hi (x : Int × Int) (l : List Int) (e : Int) (h : nn (minusG x (pw e))) : prS (x, l) e = (minusG x (pw e), l ++ [e]) := by
  unfold prS
  rw [if_neg]
  · rfl
  · unfold nn minusG at h
    simp only at h ⊢
    omega
theorem fold_pr (es : List Int) : ∀ (x : Int × Int) (l : List Int), es.foldl prS (x, l) = ((es.foldl prS (x, [])).1, l ++ (es.foldl prS (x, [])).2) := by
  induction es with
  | nil => intro x l; simp
  | cons e es ih =>
    intro x l
    simp only [List.foldl_cons]
    by_cases h : nn (minusG x (pw e))
    · rw [prS_hi x l e h, prS_hi x [] e h, ih _ (l ++ [e]), ih _ ([] ++ [e])]
      simp
    · have h' : po (minusG (pw e) x) := not_nn h (by simp only [minusG]; omega) (by simp only [minusG]; omega)
      rw [prS_lo x l e h', prS_lo x [] e h', ih x l]
theorem tp_list (m : Nat) (x : Int × Int) (l : List Int) : tp m (x, l) = ((tp m (x, [])).1, l ++ (tp m (x, [])).2) := fold_pr _ x l
theorem fold_mem (es : List Int) : ∀ (x : Int × Int), ∀ e ∈ (es.foldl prS (x, [])).2, e ∈ es := by
  induction es with
  | nil => intro x e h; simp at h
  | cons e es ih =>
    intro x d hd
    simp only [List.foldl_cons] at hd
    by_cases h : nn (minusG x (pw e))
    · rw [prS_hi x [] e h, fold_pr] at hd
      simp only [List.nil_append, List.cons_append, List.mem_cons] at hd
      rcases hd with rfl | hd
      · exact List.mem_cons_self
      · exact List.mem_cons_of_mem _ (ih _ d hd)
    · rw [prS_lo x [] e (not_nn h (by simp only [minusG]; omega) (by simp only [minusG]; omega))] at hd
      exact List.mem_cons_of_mem _ (ih _ d hd)
/-- Where the search ends. -/
def Ends (m : Nat) (x : Int × Int) (s : (Int × Int) × List Int) : Prop :=
  0 ≤ psum s.2 ∧ psum s.2 < posP m ∧ gm m (psum s.2) = minusG x s.1 ∧ nn s.1 ∧ po (minusG (1, 0) s.1) ∧ po (minusG (if psum s.2 + 1 < posP m then gm m (psum s.2 + 1) else pw m) x)
theorem srch : ∀ (m : Nat), m ≤ 36 → ∀ x, nn x → po (minusG (pw m) x) → Ends m x (tp m (x, []))
  | 0, _, x, h1, h2 => by
    have e : tp 0 (x, []) = (x, []) := rfl
    unfold Ends
    rw [e, posP_zero, show psum [] = 0 from rfl, gm_at0 0 (by omega), pw_0] at *
    refine ⟨by omega, by omega, ?_, h1, h2, ?_⟩
    · unfold minusG; simp
    · rw [if_neg (by omega)]; exact h2
  | 1, _, x, h1, h2 => by
    rw [pw_1] at h2
    have e : tp 1 (x, []) = prS (x, []) ((0 : Nat) : Int) := rfl
    unfold Ends
    rw [e, posP_one, pw_1]
    by_cases h : nn (minusG x (pw ((0 : Nat) : Int)))
    · rw [prS_hi x [] _ h]
      rw [pw_0] at *
      have hs : psum ([] ++ [((0 : Nat) : Int)]) = 1 := by decide +kernel
      simp only [hs, gm_11]
      refine ⟨by omega, by omega, ?_, h, ?_, ?_⟩
      · unfold minusG; apply Prod.ext <;> simp <;> omega
      · refine po_sum h2 (show nn (2, -1) by decide) ?_ ?_ <;> simp only [minusG] <;> omega
      · rw [if_neg (by omega)]; exact h2
    · have h' : po (minusG (pw ((0 : Nat) : Int)) x) := not_nn h (by simp only [minusG]; omega) (by simp only [minusG]; omega)
      rw [prS_lo x [] _ h']
      rw [pw_0] at *
      simp only [show psum [] = 0 from rfl, gm_at0 1 (by omega)]
      refine ⟨by omega, by omega, ?_, h1, h', ?_⟩
      · unfold minusG; simp
      · rw [if_pos (by omega), show (0 : Int) + 1 = 1 from rfl, gm_11]; exact h'
  | m + 2, hm, x, h1, h2 => by
    have hP := posP_rec2 m (by omega)
    have hW := pw_rec2 m
    have p0 := posP_pos m (by omega)
    have p1 := posP_pos (m + 1) (by omega)
    rw [tp_succ]
    by_cases h : nn (minusG x (pw ((m + 1 : Nat) : Int)))
    · have h3 : po (minusG (pw (m : Int)) (minusG x (pw ((m + 1 : Nat) : Int)))) := by
        refine po_sum h2 nn_zero ?_ ?_ <;> rw [hW] <;> simp only [minusG, ad] <;> omega
      rw [prS_hi x [] _ h, tp_succ, prS_lo _ _ _ h3, tp_list]
      obtain ⟨c1, c2, c3, c4, c5, c6⟩ := srch m (by omega) _ h h3
      generalize tp m (minusG x (pw ((m + 1 : Nat) : Int)), []) = s at *
      obtain ⟨r, l⟩ := s
      simp only at c1 c2 c3 c4 c5 c6
      unfold Ends
      simp only [List.nil_append, List.cons_append, psum_cons]
      refine ⟨by omega, by omega, ?_, c4, c5, ?_⟩
      · rw [gm_hi (m + 1) _ (by omega), show posP ((m + 1 : Nat) : Int) + psum l - posP ((m + 1 : Nat) : Int) = psum l by omega, gm_lo m _ c2, c3]
        unfold minusG ad
        apply Prod.ext <;> simp <;> omega
      · by_cases hl : psum l + 1 < posP m
        · rw [if_pos hl] at c6
          rw [if_pos (by omega), gm_hi (m + 1) _ (by omega), show posP ((m + 1 : Nat) : Int) + psum l + 1 - posP ((m + 1 : Nat) : Int) = psum l + 1 by omega, gm_lo m _ hl]
          refine po_sum c6 nn_zero ?_ ?_ <;> simp only [minusG, ad] <;> omega
        · rw [if_neg (by omega)]; exact h2
    · have h' : po (minusG (pw ((m + 1 : Nat) : Int)) x) := not_nn h (by simp only [minusG]; omega) (by simp only [minusG]; omega)
      rw [prS_lo x [] _ h']
      obtain ⟨c1, c2, c3, c4, c5, c6⟩ := srch (m + 1) (by omega) x h1 h'
      generalize tp (m + 1) (x, []) = s at *
      obtain ⟨r, l⟩ := s
      simp only at c1 c2 c3 c4 c5 c6
      unfold Ends
      simp only
      refine ⟨c1, by omega, by rw [gm_lo (m + 1) _ c2]; exact c3, c4, c5, ?_⟩
      by_cases hl : psum l + 1 < posP ((m + 1 : Nat) : Int)
      · rw [if_pos hl] at c6
        rw [if_pos (by omega), gm_lo (m + 1) _ hl]
        exact c6
      · rw [if_pos (by omega), gm_hi (m + 1) _ (by omega), show psum l + 1 - posP ((m + 1 : Nat) : Int) = 0 by omega, gm_at0 _ (by omega), ad_zero]
        exact h'
end Go.Proofs.YtfekggmdhmkemaaDoor
