/- The digits of plain texts: what remains behind each one, where they begin and end. -/
import Derived.Test.YtfekggmdhmkemaaDoorZi
import Derived.Test.YtfekggmdhmkemaaDoorGo
namespace Go.Proofs.YtfekggmdhmkemaaDoor
open Go.RowKit
set_option linter.unusedVariables false
set_option linter.unusedSimpArgs false

/-- What remains of a number behind its first n digits; the digit number n. -/
def xr (x : Int × Int) (n : Nat) : Int × Int := (prJ x n).1
def dgt (x : Int × Int) (n : Nat) : UInt8 := if nn (minusG (xr x n) (pw (39 - (n : Int)))) then 49 else 48
theorem prJ_pair (x : Int × Int) (n : Nat) : prJ x n = (xr x n, (prJ x n).2) := rfl
theorem xr_yes (x : Int × Int) (n : Nat) (hn : n < 80) (h : nn (minusG (xr x n) (pw (39 - (n : Int))))) : prJ x (n + 1) = (minusG (xr x n) (pw (39 - (n : Int))), (prJ x n).2 ++ [39 - (n : Int)]) := by
  rw [prJ_succ x n hn, prJ_pair, prS_hi _ _ _ h]
theorem xr_no (x : Int × Int) (n : Nat) (hn : n < 80) (h : ¬ nn (minusG (xr x n) (pw (39 - (n : Int))))) : prJ x (n + 1) = prJ x n := by
  rw [prJ_succ x n hn, prJ_pair, prS_lo _ _ _ (not_nn h (by simp only [minusG]; omega) (by simp only [minusG]; omega))]
theorem mem_prJ (x : Int × Int) (n : Nat) (hn : n < 80) : ∀ j, j ≤ 80 → ((39 - (n : Int)) ∈ (prJ x j).2 ↔ n < j ∧ nn (minusG (xr x n) (pw (39 - (n : Int)))))
  | 0, _ => by simp [prJ]
  | j + 1, h => by
    have ih := mem_prJ x n hn j (by omega)
    by_cases hc : nn (minusG (xr x j) (pw (39 - (j : Int))))
    · rw [xr_yes x j (by omega) hc]
      simp only [List.mem_append, List.mem_singleton, ih]
      constructor
      · rintro (⟨h1, h2⟩ | h1)
        · exact ⟨by omega, h2⟩
        · obtain rfl : n = j := by omega
          exact ⟨by omega, hc⟩
      · rintro ⟨h1, h2⟩
        by_cases e : n = j
        · right; omega
        · exact .inl ⟨by omega, h2⟩
    · rw [xr_no x j (by omega) hc, ih]
      constructor
      · rintro ⟨h1, h2⟩; exact ⟨by omega, h2⟩
      · rintro ⟨h1, h2⟩
        refine ⟨?_, h2⟩
        by_cases e : n = j
        · subst e; exact absurd h2 hc
        · omega
theorem set_fold (l : List Int) : ∀ (a : List UInt8) (n : Nat), a.length = 80 → n < 80 → (∀ e ∈ l, ∃ m : Nat, m < 80 ∧ e = 39 - (m : Int)) →
    (l.foldl (fun l e => l.set (39 - e).toNat 49) a)[n]? = if (39 - (n : Int)) ∈ l then some 49 else a[n]? := by
  induction l with
  | nil => intro a n _ _ _; simp
  | cons e l ih =>
    intro a n ha hn hl
    obtain ⟨m, hm, rfl⟩ := hl e List.mem_cons_self
    rw [List.foldl_cons, ih _ n (by simpa using ha) hn (fun e he => hl e (List.mem_cons_of_mem _ he)), show (39 - (39 - (m : Int))).toNat = m by omega]
    by_cases h1 : (39 - (n : Int)) ∈ l
    · rw [if_pos h1, if_pos (List.mem_cons_of_mem _ h1)]
    · rw [if_neg h1]
      by_cases h2 : m = n
      · subst h2
        rw [if_pos List.mem_cons_self, List.getElem?_set_self (by omega)]
      · rw [List.getElem?_set_ne h2, if_neg]
        intro h3
        rcases List.mem_cons.1 h3 with h3 | h3
        · omega
        · exact h1 h3
theorem plain_map (x : Int × Int) : plainL x = (List.range 80).map (dgt x) := by
  apply List.ext_getElem?
  intro n
  by_cases hn : n < 80
  · rw [plainL, plJ, List.take_of_length_le (Nat.le_refl _), show partsL x = (prJ x 80).2 from rfl, set_fold _ _ n (by simp [z48]) hn (prJ_mem x 80 (Nat.le_refl _))]
    have := mem_prJ x n hn 80 (Nat.le_refl _)
    simp only [this, hn, true_and, z48, List.getElem?_replicate, List.getElem?_map, List.getElem?_range hn, Option.map_some, dgt]
    split <;> simp_all
  · rw [List.getElem?_eq_none (by rw [plainL, plJ_length]; omega), List.getElem?_eq_none (by simp; omega)]
theorem plain_cut (x : Int × Int) (a b : Nat) (h : a + b ≤ 80) : ((plainL x).drop a).take b = (List.range b).map fun i => dgt x (a + i) := by
  rw [plain_map, ← List.map_drop, ← List.map_take]
  apply List.ext_getElem?
  intro i
  by_cases hi : i < b
  · simp [List.getElem?_take, hi, List.getElem?_drop, List.getElem?_range (show a + i < 80 by omega), List.getElem?_range hi]
  · rw [List.getElem?_eq_none (by simp; omega), List.getElem?_eq_none (by simp; omega)]
/-- Some digits, one after the other. -/
def dgs (x : Int × Int) (a b : Nat) : List UInt8 := (List.range (b - a)).map fun i => dgt x (a + i)
theorem dgs_length (x : Int × Int) (a b : Nat) : (dgs x a b).length = b - a := by simp [dgs]
theorem dgs_succ (x : Int × Int) (a b : Nat) (h : a ≤ b) : dgs x a (b + 1) = dgs x a b ++ [dgt x b] := by
  unfold dgs
  rw [show b + 1 - a = (b - a) + 1 by omega, List.range_succ, List.map_append]
  simp [show a + (b - a) = b by omega]
theorem dgs_self (x : Int × Int) (a : Nat) : dgs x a a = [] := by simp [dgs]
theorem dgs_add (x : Int × Int) (a b c : Nat) (h1 : a ≤ b) (h2 : b ≤ c) : dgs x a c = dgs x a b ++ dgs x b c := by
  obtain ⟨d, rfl⟩ : ∃ d, c = b + d := ⟨c - b, by omega⟩
  clear h2
  induction d with
  | zero => rw [Nat.add_zero, dgs_self, List.append_nil]
  | succ d ih => rw [← Nat.add_assoc, dgs_succ x a _ (by omega), ih, dgs_succ x b _ (by omega), List.append_assoc]
theorem dgs_head (x : Int × Int) (a b : Nat) (h : a < b) : dgs x a b = dgt x a :: dgs x (a + 1) b := by
  rw [dgs_add x a (a + 1) b (by omega) (by omega), dgs_succ x a a (by omega), dgs_self]; rfl
theorem plain_dgs (x : Int × Int) : plainL x = dgs x 0 80 := by
  rw [plain_map]; unfold dgs; simp
theorem dgs_okD (x : Int × Int) (a b : Nat) : ∀ c ∈ dgs x a b, c = 48 ∨ c = 49 := by
  intro c hc
  simp only [dgs, List.mem_map] at hc
  obtain ⟨i, _, rfl⟩ := hc
  unfold dgt
  split
  · exact .inr rfl
  · exact .inl rfl
theorem dgs_zero (x : Int × Int) (a b : Nat) (h : ∀ n, a ≤ n → n < b → dgt x n = 48) : ∀ c ∈ dgs x a b, c = 48 := by
  intro c hc
  simp only [dgs, List.mem_map, List.mem_range] at hc
  obtain ⟨i, hi, rfl⟩ := hc
  exact h _ (by omega) (by omega)
theorem trimL_app (c : UInt8) (a b : List UInt8) (ha : ∀ d ∈ a, d = c) (hb : ∀ d, b.head? = some d → d ≠ c) : Lib.trimLeftB (a ++ b) c = b := by
  unfold Lib.trimLeftB
  induction a with
  | nil =>
    cases b with
    | nil => rfl
    | cons d b =>
      have := hb d rfl
      simp [List.dropWhile_cons, this]
  | cons e a ih =>
    obtain rfl := ha e List.mem_cons_self
    simp only [List.cons_append, List.dropWhile_cons, beq_self_eq_true, if_true]
    exact ih fun d hd => ha d (List.mem_cons_of_mem _ hd)
theorem trimR_app (c : UInt8) (a b : List UInt8) (hb : ∀ d ∈ b, d = c) (ha : ∀ d, a.getLast? = some d → d ≠ c) : Lib.trimRightB (a ++ b) c = a := by
  unfold Lib.trimRightB
  rw [List.reverse_append]
  have h1 := trimL_app c b.reverse a.reverse (fun d hd => hb d (List.mem_reverse.1 hd)) (fun d hd => ha d (by rwa [List.head?_reverse] at hd))
  unfold Lib.trimLeftB at h1
  rw [h1, List.reverse_reverse]
/-- Where the digits of a number begin and end. -/
structure Span (x : Int × Int) (n0 n1 : Nat) : Prop where
  h0 : n0 ≤ 39
  h1 : 40 ≤ n1
  h2 : n1 ≤ 80
  low : ∀ n, n < n0 → dgt x n = 48
  first : n0 < 39 → dgt x n0 = 49
  high : ∀ n, n1 ≤ n → n < 80 → dgt x n = 48
  last : 40 < n1 → dgt x (n1 - 1) = 49
/-- The text of such a number. -/
def txt (x : Int × Int) (n0 n1 : Nat) : List UInt8 := if n1 ≤ 40 then dgs x n0 n1 else dgs x n0 40 ++ 46 :: dgs x 40 n1
theorem text_span (x : Int × Int) (n0 n1 : Nat) (h : Span x n0 n1) : textG x = txt x n0 n1 := by
  obtain ⟨h0, h1, h2, low, first, high, last⟩ := h
  have e1 : befL (plainL x) = dgs x n0 40 := by
    unfold befL
    have e2 : (plainL x).take 39 = dgs x 0 39 := by
      have := plain_cut x 0 39 (by omega)
      rw [List.drop_zero] at this
      rw [this]; unfold dgs; simp
    have e3 : (plainL x)[39]?.getD 0 = dgt x 39 := by rw [plain_map]; simp
    rw [e2, e3, dgs_add x 0 n0 39 (by omega) h0, trimL_app 48 _ _ (dgs_zero x 0 n0 fun n _ hn => low n hn), ← dgs_succ x n0 39 h0]
    intro d hd
    by_cases h39 : n0 < 39
    · rw [dgs_head x n0 39 h39] at hd
      simp only [List.head?_cons, Option.some.injEq] at hd
      rw [← hd, first h39]; decide
    · obtain rfl : n0 = 39 := by omega
      rw [dgs_self] at hd; cases hd
  have e4 : aftL (plainL x) = dgs x 40 n1 := by
    unfold aftL
    have e5 : (plainL x).drop 40 = dgs x 40 80 := by
      have := plain_cut x 40 40 (by omega)
      rw [List.take_of_length_le (by simp [plainL, plJ_length])] at this
      rw [this]; unfold dgs; simp
    rw [e5, dgs_add x 40 n1 80 h1 h2, trimR_app 48 _ _ (dgs_zero x n1 80 high)]
    intro d hd
    by_cases h40 : 40 < n1
    · obtain ⟨m, rfl⟩ : ∃ m, n1 = m + 1 := ⟨n1 - 1, by omega⟩
      rw [dgs_succ x 40 m (by omega), List.getLast?_concat] at hd
      have := last h40
      rw [show m + 1 - 1 = m by omega] at this
      rw [this] at hd
      obtain rfl := Option.some.inj hd
      decide
    · obtain rfl : n1 = 40 := by omega
      rw [dgs_self] at hd; cases hd
  unfold textG txtL txt
  rw [e1, e4]
  by_cases h40 : n1 ≤ 40
  · obtain rfl : n1 = 40 := by omega
    rw [if_pos (dgs_self x 40), if_pos h40]
  · rw [if_neg h40, if_neg]
    intro hc
    have := congrArg List.length hc
    rw [dgs_length] at this
    simp at this
    omega
/-- Powers ascend. -/
theorem pw_up_all : ((List.range 41).all fun b : Nat => (List.range (b + 1)).all fun a : Nat => decide (0 ≤ sgn ((pw (b : Int)).1 - (pw (a : Int)).1) ((pw (b : Int)).2 - (pw (a : Int)).2))) = true := by decide +kernel
theorem pw_up (a b : Nat) (h : a ≤ b) (hb : b ≤ 40) : nn (minusG (pw (b : Int)) (pw (a : Int))) := by
  have h1 := List.all_eq_true.1 pw_up_all b (by rw [List.mem_range]; omega)
  have h2 := List.all_eq_true.1 h1 a (by rw [List.mem_range]; omega)
  simpa [nn, minusG] using h2
theorem pw_32 : nn (minusG (pw ((32 : Nat) : Int)) (1000000, 1000000)) := by decide +kernel
theorem num_32 (x : Int × Int) (hx : sm2 1000000 x) : po (minusG (pw ((33 : Nat) : Int)) x) := by
  have h1 : po (minusG (pw ((33 : Nat) : Int)) (1000000, 1000000)) := by decide +kernel
  have h2 : nn (1000000 - x.1, 1000000 - x.2) := by unfold sm2 sm at hx; unfold nn; simp only; rw [sgn_nn]; exact .inl ⟨by omega, by omega⟩
  exact po_sum h1 h2 (by simp only [minusG]; omega) (by simp only [minusG]; omega)
/-- Before the exponent k0 nothing is taken. -/
theorem xr_start (x : Int × Int) (k0 : Nat) (h0 : k0 ≤ 39) (h : po (minusG (pw ((k0 + 1 : Nat) : Int)) x)) : ∀ n, n ≤ 39 - k0 → prJ x n = (x, []) ∧ (n < 39 - k0 → dgt x n = 48)
  | 0, hn => by
    refine ⟨rfl, fun hlt => ?_⟩
    have h1 := pw_up (k0 + 1) 39 (by omega) (by omega)
    unfold dgt
    rw [if_neg]
    have : po (minusG (pw ((39 : Nat) : Int)) x) := po_sum h h1 (by simp only [minusG]; omega) (by simp only [minusG]; omega)
    rw [show xr x 0 = x from rfl, show (39 : Int) - ((0 : Nat) : Int) = ((39 : Nat) : Int) by omega]
    exact po_not this (by simp only [minusG]; omega) (by simp only [minusG]; omega)
  | n + 1, hn => by
    obtain ⟨e1, e2⟩ := xr_start x k0 h0 h n (by omega)
    have e3 := e2 (by omega)
    have hnc : ¬ nn (minusG (xr x n) (pw (39 - (n : Int)))) := by
      intro hc
      unfold dgt at e3
      rw [if_pos hc] at e3
      exact absurd e3 (by decide)
    have e4 : prJ x (n + 1) = (x, []) := by rw [xr_no x n (by omega) hnc, e1]
    refine ⟨e4, fun hlt => ?_⟩
    have h1 := pw_up (k0 + 1) (39 - (n + 1)) (by omega) (by omega)
    have : po (minusG (pw ((39 - (n + 1) : Nat) : Int)) x) := po_sum h h1 (by simp only [minusG]; omega) (by simp only [minusG]; omega)
    unfold dgt
    rw [if_neg]
    unfold xr
    rw [e4, show (39 : Int) - ((n + 1 : Nat) : Int) = ((39 - (n + 1) : Nat) : Int) by omega]
    exact po_not this (by simp only [minusG]; omega) (by simp only [minusG]; omega)
/-- What remains is not less than 0, and less than the power before. -/
theorem xr_bound (x : Int × Int) (hx : sm2 1000000 x) (hn : nn x) : ∀ n, n ≤ 78 → nn (xr x n) ∧ po (minusG (pw (40 - (n : Int))) (xr x n))
  | 0, _ => by
    refine ⟨hn, ?_⟩
    have h1 := num_32 x hx
    have h2 := pw_up 33 40 (by omega) (by omega)
    rw [show xr x 0 = x from rfl, show (40 : Int) - ((0 : Nat) : Int) = ((40 : Nat) : Int) by omega]
    exact po_sum h1 h2 (by simp only [minusG]; omega) (by simp only [minusG]; omega)
  | n + 1, h => by
    obtain ⟨h1, h2⟩ := xr_bound x hx hn n (by omega)
    have e1 := pw_next (39 - ((n + 1 : Nat) : Int))
    rw [show (39 : Int) - ((n + 1 : Nat) : Int) + 2 = 40 - (n : Int) by omega, show (39 : Int) - ((n + 1 : Nat) : Int) + 1 = 39 - (n : Int) by omega] at e1
    have e11 : (pw (40 - (n : Int))).1 = (pw (39 - (n : Int))).1 + (pw (39 - ((n + 1 : Nat) : Int))).1 := congrArg Prod.fst e1
    have e12 : (pw (40 - (n : Int))).2 = (pw (39 - (n : Int))).2 + (pw (39 - ((n + 1 : Nat) : Int))).2 := congrArg Prod.snd e1
    rw [show (40 : Int) - ((n + 1 : Nat) : Int) = 39 - (n : Int) by omega]
    by_cases hc : nn (minusG (xr x n) (pw (39 - (n : Int))))
    · have e2 := congrArg Prod.fst (xr_yes x n (by omega) hc)
      rw [show (prJ x (n + 1)).1 = xr x (n + 1) from rfl] at e2
      rw [e2]
      refine ⟨hc, ?_⟩
      have h3 : po (minusG (pw (39 - ((n + 1 : Nat) : Int))) (minusG (xr x n) (pw (39 - (n : Int))))) := po_sum h2 nn_zero (by simp only [minusG]; omega) (by simp only [minusG]; omega)
      have e5 := pw_next (39 - ((n + 1 : Nat) : Int) - 1)
      rw [show (39 : Int) - ((n + 1 : Nat) : Int) - 1 + 2 = 39 - (n : Int) by omega, show (39 : Int) - ((n + 1 : Nat) : Int) - 1 + 1 = 39 - ((n + 1 : Nat) : Int) by omega] at e5
      have w1 : nn (pw (39 - ((n + 1 : Nat) : Int) - 1)) := po_nn (pw_po _ (by omega) (by omega))
      have e51 : (pw (39 - (n : Int))).1 = (pw (39 - ((n + 1 : Nat) : Int))).1 + (pw (39 - ((n + 1 : Nat) : Int) - 1)).1 := congrArg Prod.fst e5
      have e52 : (pw (39 - (n : Int))).2 = (pw (39 - ((n + 1 : Nat) : Int))).2 + (pw (39 - ((n + 1 : Nat) : Int) - 1)).2 := congrArg Prod.snd e5
      exact po_sum h3 w1 (by simp only [minusG]; omega) (by simp only [minusG]; omega)
    · have e2 := congrArg Prod.fst (xr_no x n (by omega) hc)
      rw [show (prJ x (n + 1)).1 = xr x (n + 1) from rfl, show (prJ x n).1 = xr x n from rfl] at e2
      rw [e2]
      exact ⟨h1, not_nn hc (by simp only [minusG]; omega) (by simp only [minusG]; omega)⟩
/-- No two digits 1 stand side by side. -/
theorem dgt_apart (x : Int × Int) (hx : sm2 1000000 x) (hn : nn x) (n : Nat) (h : n < 79) (h1 : dgt x n = 49) : dgt x (n + 1) = 48 := by
  have hc : nn (minusG (xr x n) (pw (39 - (n : Int)))) := by
    by_cases hc : nn (minusG (xr x n) (pw (39 - (n : Int))))
    · exact hc
    · unfold dgt at h1; rw [if_neg hc] at h1; exact absurd h1 (by decide)
  obtain ⟨g1, g2⟩ := xr_bound x hx hn n (by omega)
  have e2 := congrArg Prod.fst (xr_yes x n (by omega) hc)
  rw [show (prJ x (n + 1)).1 = xr x (n + 1) from rfl] at e2
  have e1 := pw_next (39 - ((n + 1 : Nat) : Int))
  rw [show (39 : Int) - ((n + 1 : Nat) : Int) + 2 = 40 - (n : Int) by omega, show (39 : Int) - ((n + 1 : Nat) : Int) + 1 = 39 - (n : Int) by omega] at e1
  have e11 : (pw (40 - (n : Int))).1 = (pw (39 - (n : Int))).1 + (pw (39 - ((n + 1 : Nat) : Int))).1 := congrArg Prod.fst e1
  have e12 : (pw (40 - (n : Int))).2 = (pw (39 - (n : Int))).2 + (pw (39 - ((n + 1 : Nat) : Int))).2 := congrArg Prod.snd e1
  unfold dgt
  rw [if_neg]
  rw [e2]
  have h3 : po (minusG (pw (39 - ((n + 1 : Nat) : Int))) (minusG (xr x n) (pw (39 - (n : Int))))) := po_sum g2 nn_zero (by simp only [minusG]; omega) (by simp only [minusG]; omega)
  exact po_not h3 (by simp only [minusG]; omega) (by simp only [minusG]; omega)
theorem Rem_40 (x : Int × Int) (hx : sm2 1000000 x) (hn : nn x) : Rem (xr x 40) 0 := by
  have h32 : po (minusG (pw ((33 : Nat) : Int)) x) := num_32 x hx
  obtain ⟨b1, b2⟩ := xr_bound x hx hn 40 (by omega)
  have es := (xr_start x 32 (by omega) h32 7 (by omega)).1
  have e40 : xr x 40 = (tp 33 (x, [])).1 := by
    have : prJ x 40 = tp 40 (x, []) := by
      unfold prJ tp
      rw [pdn_cut, List.take_left' (by rw [pdn_length])]
      rfl
    unfold xr
    rw [this]
    have key : ∀ d, d ≤ 7 → tp (33 + d) (x, []) = tp 33 (x, []) := by
      intro d
      induction d with
      | zero => intro _; rfl
      | succ d ih =>
        intro hd
        have h2 := pw_up 33 (33 + d) (by omega) (by omega)
        rw [← Nat.add_assoc, tp_succ, prS_lo x [] _ (po_sum h32 h2 (by simp only [minusG]; omega) (by simp only [minusG]; omega)), ih (by omega)]
    rw [key 7 (by omega)]
  obtain ⟨c1, c2, c3, c4, c5, c6⟩ := srch 33 (by omega) x hn h32
  have g1 := gm_pos 33 (by omega) _ c1 c2
  rw [c3, ← e40] at g1
  have p33 : posP ((33 : Nat) : Int) = 9227465 := by decide +kernel
  rw [p33] at c2
  simp only [minusG] at g1
  unfold sm2 sm at hx
  have hlin : ∀ s : Int, -9000000 ≤ s → s ≤ 9000000 → True := fun _ _ _ => trivial
  refine ⟨b1, by simpa using b2, ?_, ?_⟩
  · have h1 : nn (2 * 6000000, (xr x 40).2) := nn_lin 6000000 _ (by decide) (by omega) (by omega)
    have h2 := nn_int (12000000 + (hiB 0).1 - (xr x 40).1 - (xr x 40).2) (by
      have : (hiB 0).1 = 1 := by decide +kernel
      omega)
    have h3 : (hiB 0).2 = 0 := by decide +kernel
    exact nn_sum h1 h2 (by simp only [minusG, ad, mateG]; omega) (by simp only [minusG, ad, mateG]; omega)
  · have h1 : nn (2 * 6000000, -(xr x 40).2) := nn_lin 6000000 _ (by decide) (by omega) (by omega)
    have h2 : nn (12000000 + (xr x 40).1 + (xr x 40).2, 0) := nn_int _ (by omega)
    have h3 : nn (loB 0) := by decide +kernel
    have h4 := nn_sum h2 h3 (z := (12000000 + (xr x 40).1 + (xr x 40).2 + (loB 0).1, (loB 0).2)) rfl (by simp)
    exact nn_sum h1 h4 (by simp only [ad, mateG]; omega) (by simp only [ad, mateG]; omega)
theorem Rem_at (x : Int × Int) (hx : sm2 1000000 x) (hn : nn x) : ∀ m, m ≤ 39 → Rem (xr x (40 + m)) m
  | 0, _ => Rem_40 x hx hn
  | m + 1, h => by
    have := rem_next _ m (by omega) (Rem_at x hx hn m (by omega)) (prJ x (40 + m)).2
    have e : prJ x (40 + m + 1) = prS (prJ x (40 + m)) (39 - ((40 + m : Nat) : Int)) := prJ_succ x _ (by omega)
    rw [show (39 : Int) - ((40 + m : Nat) : Int) = -((m + 1 : Nat) : Int) by omega, prJ_pair x (40 + m)] at e
    rw [← e] at this
    exact this
theorem xr_end (x : Int × Int) (hx : sm2 1000000 x) (hn : nn x) : xr x 80 = (0, 0) := by
  have := rem_zero _ (Rem_at x hx hn 39 (by omega)) (prJ x 79).2
  have e : prJ x (79 + 1) = prS (prJ x 79) (39 - ((79 : Nat) : Int)) := prJ_succ x _ (by omega)
  rw [show (39 : Int) - ((79 : Nat) : Int) = -40 by omega, prJ_pair x 79] at e
  rw [show (40 + 39 : Nat) = 79 from rfl] at this
  rw [← e] at this
  exact this
/-- Behind what is nothing, nothing is taken. -/
theorem xr_nil (x : Int × Int) (n : Nat) (h : xr x n = (0, 0)) : ∀ m, n ≤ m → m ≤ 80 → xr x m = (0, 0) ∧ (m < 80 → dgt x m = 48) := by
  have key : ∀ m, xr x m = (0, 0) → m < 80 → dgt x m = 48 ∧ xr x (m + 1) = (0, 0) := fun m hm hlt => by
    have w := pw_po (39 - (m : Int)) (by omega) (by omega)
    have hnc : ¬ nn (minusG (xr x m) (pw (39 - (m : Int)))) := by
      rw [hm]; exact po_not w (by simp [minusG]) (by simp [minusG])
    refine ⟨by unfold dgt; rw [if_neg hnc], ?_⟩
    have := congrArg Prod.fst (xr_no x m hlt hnc)
    rw [show (prJ x (m + 1)).1 = xr x (m + 1) from rfl, show (prJ x m).1 = xr x m from rfl] at this
    rw [this, hm]
  intro m hm
  obtain ⟨d, rfl⟩ : ∃ d, m = n + d := ⟨m - n, by omega⟩
  clear hm
  induction d with
  | zero => exact fun _ => ⟨h, fun hlt => (key n h hlt).1⟩
  | succ d ih =>
    intro h80
    have := (key (n + d) (ih (by omega)).1 (by omega)).2
    exact ⟨this, fun hlt => (key _ this hlt).1⟩
end Go.Proofs.YtfekggmdhmkemaaDoor
