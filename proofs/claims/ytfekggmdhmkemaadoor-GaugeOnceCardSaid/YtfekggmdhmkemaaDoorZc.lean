/- What remains of a number below 1 contains a power with an exponent from -40 on; the place that the search tells. -/
import Derived.Test.YtfekggmdhmkemaaDoorZa
import Derived.Test.YtfekggmdhmkemaaDoorVd
namespace Go.Proofs.YtfekggmdhmkemaaDoor
open Go.RowKit
set_option linter.unusedVariables false
set_option linter.unusedSimpArgs false

theorem sq_nn (a : Int) : 0 ≤ a * a := by
  by_cases h : a = 0
  · subst h; decide
  · exact Int.le_of_lt (sq_pos a h)
theorem NN_w (p q : Int) (h : NN p q) : NN (p + 5 * q) (p + q) := by
  have e1 : (p + 5 * q) * (p + 5 * q) = p * p + 10 * (p * q) + 25 * (q * q) := by grind
  have e2 : (p + q) * (p + q) = p * p + 2 * (p * q) + q * q := by grind
  rcases h with ⟨a, b⟩ | ⟨a, b, c⟩ | ⟨a, b, c⟩
  · exact .inl ⟨by omega, by omega⟩
  · have h1 : -q ≤ p := by
      rcases Int.lt_or_le p (-q) with h | h
      · have h2 := sq_lt a h
        have h3 := sq_nn q
        rw [neg_sq] at h2
        omega
      · exact h
    rcases Int.lt_or_le (p + 5 * q) 0 with h3 | h3
    · exact .inr (.inr ⟨by omega, by omega, by rw [e1, e2]; omega⟩)
    · exact .inl ⟨h3, by omega⟩
  · have h1 : -p ≤ 5 * q := by
      rcases Int.lt_or_le (5 * q) (-p) with h | h
      · have h2 := sq_lt (show 0 ≤ 5 * q by omega) h
        have h3 := sq_nn q
        rw [neg_sq, show (5 * q) * (5 * q) = 25 * (q * q) by grind] at h2
        omega
      · exact h
    rcases Int.lt_or_le (p + q) 0 with h3 | h3
    · exact .inr (.inl ⟨by omega, by omega, by rw [e1, e2]; omega⟩)
    · exact .inl ⟨by omega, h3⟩
theorem NN_half (a b : Int) (h : NN (2 * a) (2 * b)) : NN a b := by
  unfold NN at *
  rw [show (2 * a) * (2 * a) = 4 * (a * a) by grind, show (2 * b) * (2 * b) = 4 * (b * b) by grind] at h
  omega
theorem nn_w {x : Int × Int} (h : nn x) : nn (x.2, x.1 + x.2) := by
  unfold nn at *
  simp only
  rw [sgn_nn] at *
  have h1 := NN_w _ _ h
  refine NN_half _ _ ?_
  rw [show 2 * (2 * x.2 + (x.1 + x.2)) = 2 * x.1 + x.2 + 5 * x.2 by omega, show 2 * (x.1 + x.2) = 2 * x.1 + x.2 + x.2 by omega]
  exact h1
theorem po_w {x : Int × Int} (h : po x) : po (x.2, x.1 + x.2) := by
  have h1 := nn_w (po_nn h)
  rcases Int.lt_or_le 0 (sgn x.2 (x.1 + x.2)) with h3 | h3
  · exact h3
  · exfalso
    have h4 : sgn x.2 (x.1 + x.2) = 0 := by unfold nn at h1; simp only at h1; omega
    obtain ⟨h5, h6⟩ := (sgn_zero _ _).1 h4
    unfold po at h
    rw [(sgn_zero _ _).2 ⟨by omega, h5⟩] at h
    omega
theorem times_pw (x : Int × Int) (n : Nat) : timesG x (pw ((n + 1 : Nat) : Int)) = ((timesG x (pw (n : Int))).2, (timesG x (pw (n : Int))).1 + (timesG x (pw (n : Int))).2) := by
  rw [show ((n + 1 : Nat) : Int) = (n : Int) + 1 by omega, pw_succ]
  unfold timesG
  apply Prod.ext <;> simp only <;> grind
theorem times_one (x : Int × Int) : timesG x (pw ((0 : Nat) : Int)) = x := by rw [pw_0]; unfold timesG; simp
theorem po_pw {x : Int × Int} (h : po x) (n : Nat) : po (timesG x (pw (n : Int))) := by
  induction n with
  | zero => rw [times_one]; exact h
  | succ n ih => rw [times_pw]; exact po_w ih
theorem nn_pw {x : Int × Int} (h : nn x) (n : Nat) : nn (timesG x (pw (n : Int))) := by
  induction n with
  | zero => rw [times_one]; exact h
  | succ n ih => rw [times_pw]; exact nn_w ih
theorem pw_40s : timesG (pw (-40)) (pw ((40 : Nat) : Int)) = (1, 0) ∧ mateG (pw ((40 : Nat) : Int)) = pw (-40) ∧ pw ((40 : Nat) : Int) = (63245986, 102334155) := by decide +kernel
/-- Multiplied by the power of -40, a sign stays. -/
theorem po_back {u : Int × Int} (h : po u) : po (timesG u (pw (-40))) := by
  by_cases h1 : po (timesG u (pw (-40)))
  · exact h1
  · exfalso
    have h2 : nn (-(timesG u (pw (-40))).1, -(timesG u (pw (-40))).2) := not_po h1 rfl rfl
    have h3 := nn_pw h2 40
    have h4 := pw_40s.1
    have h5 : timesG (-(timesG u (pw (-40))).1, -(timesG u (pw (-40))).2) (pw ((40 : Nat) : Int)) = (-u.1, -u.2) := by
      generalize pw (-40) = a at *
      generalize pw ((40 : Nat) : Int) = b at *
      unfold timesG at *
      simp only [Prod.mk.injEq] at *
      obtain ⟨h4, h6⟩ := h4
      refine ⟨?_, ?_⟩ <;> grind
    rw [h5] at h3
    exact nn_not h3 (by simp) (by simp) h
theorem nn_int (n : Int) (h : 0 ≤ n) : nn (n, 0) := by unfold nn; simp only; rw [sgn_nn]; exact .inl ⟨by omega, by omega⟩
/-- No number between 0 and 1 has a mate between -1 and 1. -/
theorem no_small (P : Int × Int) (h1 : po P) (h2 : po (minusG (1, 0) P)) (h3 : po (ad (1, 0) (mateG P))) (h4 : po (minusG (1, 0) (mateG P))) : False := by
  obtain ⟨p, q⟩ := P
  simp only [minusG, ad, mateG] at *
  have a1 : po (2 + q, -2 * q) := po_sum h2 (po_nn h3) (by simp only; omega) (by simp only; omega)
  have a2 : po (1 - q, 2 * q) := po_sum h1 (po_nn h4) (by simp only; omega) (by simp only; omega)
  have hq : q = 0 := by
    rcases Int.lt_trichotomy q 0 with h | h | h
    · exfalso
      refine nn_not (x := (q - 1, -2 * q)) ?_ (by simp only; omega) (by simp only; omega) a2
      unfold nn; simp only; rw [sgn_nn]
      right; right
      refine ⟨by omega, by omega, ?_⟩
      have := sq_le (show (0 : Int) ≤ 2 by decide) (show 2 ≤ -2 * q by omega)
      rw [show 2 * (q - 1) + -2 * q = -2 by omega]
      omega
    · exact h
    · exfalso
      refine nn_not (x := (-2 - q, 2 * q)) ?_ (by simp only; omega) (by simp only; omega) a1
      unfold nn; simp only; rw [sgn_nn]
      right; right
      refine ⟨by omega, by omega, ?_⟩
      have := sq_le (show (0 : Int) ≤ 2 by decide) (show 2 ≤ 2 * q by omega)
      rw [show 2 * (-2 - q) + 2 * q = -4 by omega]
      omega
  subst hq
  rcases Int.lt_or_le 0 p with h | h
  · exact nn_not (nn_int (p - 1) (by omega)) (by simp only; omega) (by simp) h2
  · exact nn_not (nn_int (-p) (by omega)) (by simp only; omega) (by simp) h1
/-- What remains of a number contains the power of -40. -/
theorem rest_big (r : Int × Int) (h : po r) (hs : sm2 10000000 r) : ¬ po (minusG (pw (-40)) r) := by
  intro h2
  obtain ⟨w1, w2, w3⟩ := pw_40s
  have a2 := po_pw h2 40
  have e2 : timesG (minusG (pw (-40)) r) (pw ((40 : Nat) : Int)) = minusG (1, 0) (timesG r (pw ((40 : Nat) : Int))) := by
    rw [← w1]
    generalize pw (-40) = a
    generalize pw ((40 : Nat) : Int) = b
    unfold timesG minusG
    apply Prod.ext <;> simp only <;> grind
  rw [e2] at a2
  have b1 : po (ad (pw ((40 : Nat) : Int)) (mateG r)) := by
    rw [w3]
    unfold sm2 sm at hs
    have : nn (ad (63245985, 102334155) (mateG r)) := by unfold nn ad mateG; simp only; rw [sgn_nn]; exact .inl ⟨by omega, by omega⟩
    exact po_sum2 (y := (1, 0)) this (by decide) (by simp only [ad]; omega) (by simp only [ad]; omega)
  have b2 : po (minusG (pw ((40 : Nat) : Int)) (mateG r)) := by
    rw [w3]
    unfold sm2 sm at hs
    have : nn (minusG (63245985, 102334155) (mateG r)) := by unfold nn minusG mateG; simp only; rw [sgn_nn]; exact .inl ⟨by omega, by omega⟩
    exact po_sum2 (y := (1, 0)) this (by decide) (by simp only [minusG]; omega) (by simp only [minusG]; omega)
  have em : mateG (timesG r (pw ((40 : Nat) : Int))) = timesG (mateG r) (pw (-40)) := by rw [← mate_times, w2]
  have w4 : timesG (pw ((40 : Nat) : Int)) (pw (-40)) = (1, 0) := by decide +kernel
  have c1 := po_back b1
  have c2 := po_back b2
  have f1 : timesG (ad (pw ((40 : Nat) : Int)) (mateG r)) (pw (-40)) = ad (1, 0) (mateG (timesG r (pw ((40 : Nat) : Int)))) := by
    rw [em, ← w4]
    generalize pw (-40) = a
    generalize pw ((40 : Nat) : Int) = b
    generalize mateG r = m
    unfold timesG ad
    apply Prod.ext <;> simp only <;> grind
  have f2 : timesG (minusG (pw ((40 : Nat) : Int)) (mateG r)) (pw (-40)) = minusG (1, 0) (mateG (timesG r (pw ((40 : Nat) : Int)))) := by
    rw [em, ← w4]
    generalize pw (-40) = a
    generalize pw ((40 : Nat) : Int) = b
    generalize mateG r = m
    unfold timesG minusG
    apply Prod.ext <;> simp only <;> grind
  rw [f1] at c1
  rw [f2] at c2
  exact no_small _ (po_pw h 40) a2 c1 c2

/-- What Below tells, from the exponents that it meets. -/
def blw (l : List Int) : Int := if l.all (fun e => decide (0 ≤ e)) then psum l else psum (l.takeWhile fun e => decide (0 ≤ e)) + 1
theorem blw_stop (l : List Int) (j : Nat) (e : Int) (h : l[j]? = some e) (h1 : ∀ d ∈ l.take j, 0 ≤ d) (h2 : e < 0) : blw l = psum (l.take j) + 1 := by
  obtain ⟨hj, rfl⟩ := List.getElem?_eq_some_iff.1 h
  unfold blw
  have hall : l.all (fun e => decide (0 ≤ e)) = false := List.all_eq_false.2 ⟨l[j], List.getElem_mem hj, by simpa using h2⟩
  rw [hall]
  have ht : l.takeWhile (fun e => decide (0 ≤ e)) = l.take j := by
    rw [← List.take_append_drop j l] 
    rw [List.takeWhile_append_of_pos (by simpa using h1), List.drop_eq_getElem_cons hj, List.takeWhile_cons_of_neg (by simpa using h2)]
    simp
  rw [ht]; rfl
theorem blw_all (l : List Int) (h1 : ∀ d ∈ l, 0 ≤ d) : blw l = psum l := by
  unfold blw
  rw [if_pos (List.all_eq_true.2 (by simpa using h1))]
theorem pdn_cut : pdn 39 80 = pdn 39 40 ++ pdn (-1) 40 := by decide +kernel
theorem pdn_hi : ∀ e ∈ pdn 39 40, 0 ≤ e := by decide +kernel
theorem pdn_low : ∀ e ∈ pdn (-1) 40, -40 ≤ e ∧ e < 0 := by decide +kernel
theorem parts_cut (x : Int × Int) : partsL x = (tp 40 (x, [])).2 ++ ((pdn (-1) 40).foldl prS ((tp 40 (x, [])).1, [])).2 := by
  unfold partsL prJ
  rw [List.take_of_length_le (by rw [pdn_length]; exact Nat.le_refl _), pdn_cut, List.foldl_append]
  rw [show (pdn 39 40).foldl prS (x, []) = tp 40 (x, []) from rfl]
  generalize tp 40 (x, []) = s
  obtain ⟨r, l⟩ := s
  rw [fold_pr]
theorem fold_none (es : List Int) : ∀ (r : Int × Int), (es.foldl prS (r, [])).2 = [] → ∀ e ∈ es, po (minusG (pw e) r) := by
  induction es with
  | nil => intro r _ e he; cases he
  | cons d es ih =>
    intro r h e he
    simp only [List.foldl_cons] at h
    by_cases hd : nn (minusG r (pw d))
    · rw [prS_hi r [] d hd, fold_pr] at h
      simp at h
    · have hd' : po (minusG (pw d) r) := not_nn hd (by simp only [minusG]; omega) (by simp only [minusG]; omega)
      rw [prS_lo r [] d hd'] at h
      rcases List.mem_cons.1 he with rfl | he
      · exact hd'
      · exact ih r h e he
theorem fold_zero (es : List Int) (h : ∀ e ∈ es, -40 ≤ e ∧ e ≤ 40) (r : Int × Int) (hr : ¬ po r) : es.foldl prS (r, []) = (r, []) := by
  induction es with
  | nil => rfl
  | cons d es ih =>
    have hd := h d List.mem_cons_self
    have h1 : nn (-r.1, -r.2) := not_po hr rfl rfl
    rw [List.foldl_cons, prS_lo r [] d (po_sum (pw_po d hd.1 hd.2) h1 (by simp only [minusG]; omega) (by simp only [minusG]; omega))]
    exact ih fun e he => h e (List.mem_cons_of_mem _ he)
theorem blw_zero (x : Int × Int) (h : ¬ po x) : blw (partsL x) = 0 := by
  have : partsL x = [] := by
    unfold partsL prJ
    rw [List.take_of_length_le (by rw [pdn_length]; exact Nat.le_refl _), fold_zero (pdn 39 80) (by decide +kernel) x h]
  rw [this]; rfl
theorem pw_big : ((List.range 11).all fun d : Nat => decide (0 < sgn ((pw ((30 + d : Nat) : Int)).1 - 1000000) (pw ((30 + d : Nat) : Int)).2)) = true := by decide +kernel
theorem pw_big_at (d : Nat) (h : d ≤ 10) (x : Int × Int) (hm : nn (minusG (1000000, 0) x)) : po (minusG (pw ((30 + d : Nat) : Int)) x) := by
  have := List.all_eq_true.1 pw_big d (by rw [List.mem_range]; omega)
  have h1 : po (minusG (pw ((30 + d : Nat) : Int)) (1000000, 0)) := by
    unfold po minusG
    simpa using this
  exact po_sum h1 hm (by simp only [minusG]; omega) (by simp only [minusG]; omega)
theorem tp_small (x : Int × Int) (hm : nn (minusG (1000000, 0) x)) : ∀ d, d ≤ 10 → tp (30 + d) (x, []) = tp 30 (x, [])
  | 0, _ => rfl
  | d + 1, h => by
    rw [← Nat.add_assoc, tp_succ, prS_lo x [] _ (pw_big_at d (by omega) x hm), tp_small x hm d (by omega)]
theorem blw_place (x : Int × Int) (hx : sm2 1000000 x) (hp : po x) (hm : nn (minusG (1000000, 0) x)) : Place x (blw (partsL x)) := by
  have h30 := pw_big_at 0 (by omega) x hm
  obtain ⟨c1, c2, c3, c4, c5, c6⟩ := srch 30 (by omega) x (po_nn hp) h30
  rw [parts_cut, tp_small x hm 10 (by omega)]
  have hge : ∀ e ∈ (tp 30 (x, [])).2, 0 ≤ e := fun e he => by
    have := fold_mem (pdn ((30 : Nat) - 1 : Int) 30) x e he
    have h2 : ∀ e ∈ pdn ((30 : Nat) - 1 : Int) 30, 0 ≤ e := by decide +kernel
    exact h2 e this
  have g1 := gm_pos 30 (by omega) _ c1 c2
  rw [posP_30] at c2 c6
  generalize tp 30 (x, []) = s at *
  obtain ⟨r, l⟩ := s
  simp only at c1 c2 c3 c4 c5 c6 hge g1 ⊢
  have hrn : rungG (psum l) = minusG x r := by rw [rung_gm 30 (by omega) _ (by rw [posP_30]; exact c2)]; exact c3
  rw [c3] at g1
  by_cases hr : po r
  · have hsr : sm2 10000000 r := by
      unfold sm2 sm minusG at *
      simp only at g1
      omega
    have hne : ((pdn (-1) 40).foldl prS (r, [])).2 ≠ [] := fun h => rest_big r hr hsr (fold_none _ r h (-40) (by decide +kernel))
    have hlt := fold_mem (pdn (-1) 40) r
    generalize ((pdn (-1) 40).foldl prS (r, [])).2 = t at *
    cases t with
    | nil => exact absurd rfl hne
    | cons d t =>
      have hd := (pdn_low d (hlt d List.mem_cons_self)).2
      have hb : blw (l ++ d :: t) = psum l + 1 := by
        have := blw_stop (l ++ d :: t) l.length d (by simp) (by simpa using hge) hd
        simpa using this
      rw [hb]
      refine ⟨by omega, by omega, ?_, ?_⟩
      · rw [show psum l + 1 - 1 = psum l by omega, hrn]
        exact po_sum hr nn_zero (by simp only [minusG]; omega) (by simp only [minusG]; omega)
      · have hnx : rungG (psum l + 1) = if psum l + 1 < 2178309 then gm 30 (psum l + 1) else pw ((30 : Nat) : Int) := by
          split
          · rw [rung_gm 30 (by omega) _ (by rw [posP_30]; omega)]
          · rw [show psum l + 1 = posP ((30 : Nat) : Int) by rw [posP_30]; omega]; decide +kernel
        rw [hnx]
        exact po_nn c6
  · have ht : ((pdn (-1) 40).foldl prS (r, [])).2 = [] := by
      rw [fold_zero (pdn (-1) 40) (fun e he => by have := pdn_low e he; omega) r hr]
    rw [ht, List.append_nil, blw_all l hge]
    have hz : r.1 = 0 ∧ r.2 = 0 := (sgn_zero _ _).1 (by unfold po nn at *; omega)
    have hxr : rungG (psum l) = x := by rw [hrn]; unfold minusG; rw [hz.1, hz.2]; simp
    have h1 : 1 ≤ psum l := by
      rcases Int.lt_or_le 0 (psum l) with h | h
      · omega
      · exfalso
        rw [show psum l = 0 by omega, rungG_zero] at hxr
        rw [← hxr] at hp
        exact absurd hp (by decide)
    refine ⟨h1, by omega, ?_, ?_⟩
    · have := rung_asc (psum l - 1) (psum l) (by omega) (by omega) (by omega)
      rw [hxr] at this
      exact this
    · rw [hxr]
      unfold minusG nn
      simp only [Int.sub_self]
      exact nn_zero
end Go.Proofs.YtfekggmdhmkemaaDoor
