/- What climbing and the best side are. -/
import Derived.Test.YtngonghgkeobhaaEi
import Derived.Test.YtngonghgkeobhaaEe
namespace Go.Proofs.Ytngonghgkeobhaa
open Go.RowKit Go.Shelf
set_option linter.unusedVariables false
set_option linter.unusedSimpArgs false

theorem clm_spec (d : Nat) (hd : d ≤ 12) (l : List Ed) (hE : edgesOk l) (hbl : below d l) (hT : edgesT l) : ∀ (f S k : Nat), 5000 - valL S l < f →
    fpos (gnL (clm l f S k).1 l) = -1 ∧ k ≤ (clm l f S k).2 ∧ valL S l + ((clm l f S k).2 - k : Nat) ≤ valL (clm l f S k).1 l ∧ ((clm l f S k).2 = k → (clm l f S k).1 = S)
  | 0, S, k, h => by have := (val_in S l hE).2; omega
  | f + 1, S, k, h => by
    rcases fpos_dgn S d hd l hbl hT with ⟨h1, _⟩ | ⟨p, h1, h2, h3, _⟩
    · rw [clm_end l (f + 1) S k (by omega)]
      exact ⟨h1, Nat.le_refl _, by simp, fun _ => rfl⟩
    · have hv : dgn l S p = valL (flp S p) l - valL S l := rfl
      have e : clm l (f + 1) S k = clm l f (flp S p) (k + 1) := by
        show (if 0 ≤ fpos (gnL S l) then clm l f (flp S (fpos (gnL S l)).toNat) (k + 1) else (S, k)) = _
        rw [h2, if_pos (by omega), Int.toNat_natCast]
      rw [e]
      obtain ⟨a1, a2, a3, a4⟩ := clm_spec d hd l hE hbl hT f (flp S p) (k + 1) (by omega)
      exact ⟨a1, by omega, by omega, fun h => by omega⟩
/-- What is at the end of a climb. -/
theorem clmb_spec (d : Nat) (hd : d ≤ 12) (l : List Ed) (hE : edgesOk l) (hbl : below d l) (hT : edgesT l) (S : Nat) :
    (∀ j, j < d → dgn l (clmb l S).1 j ≤ 0) ∧ valL S l + (clmb l S).2 ≤ valL (clmb l S).1 l ∧ ((clmb l S).2 = 0 → (clmb l S).1 = S) ∧ clmb l (clmb l S).1 = ((clmb l S).1, 0) := by
  obtain ⟨h1, _, h3, h4⟩ := clm_spec d hd l hE hbl hT 10001 S 0 (by have := (val_in S l hE).1; omega)
  have e : clm l 10001 S 0 = clmb l S := rfl
  rw [e] at h1 h3 h4
  refine ⟨fun j hj => ?_, by simpa using h3, h4, clm_end l 10001 _ 0 (by omega)⟩
  rcases fpos_dgn (clmb l S).1 d hd l hbl hT with ⟨_, h⟩ | ⟨p, _, h, _, _⟩
  · exact h j hj
  · omega
theorem val_in2 (S : Nat) (l : List Ed) (hE : edgesOk l) : -(50 * l.length : Int) ≤ valL S l ∧ valL S l ≤ 50 * l.length := by
  have key : ∀ k, k ≤ l.length → -(50 * k : Int) ≤ valL S (l.take k) ∧ valL S (l.take k) ≤ 50 * k := by
    intro k
    induction k with
    | zero => intro _; simp [valL]
    | succ k ih =>
      intro hk
      have hx : l[k]? = some l[k] := List.getElem?_eq_getElem (by omega)
      have h := hE.2 _ (List.mem_of_getElem? hx)
      have hw := wgt_in S l[k] (by omega)
      have ih := ih (by omega)
      rw [take_at l k _ hx, valL_snoc]
      omega
  have := key l.length (Nat.le_refl _)
  rwa [List.take_length] at this
/-- The opposite side. -/
def opp (S : Nat) : Nat := S ^^^ 4095
theorem hs_opp (S u : Nat) (hu : u < 12) : hs (opp S) u = !hs S u := by
  unfold hs opp
  rw [Nat.testBit_xor, show (4095 : Nat) = 2 ^ 12 - 1 by decide, Nat.testBit_two_pow_sub_one]
  rw [decide_eq_true (show 11 - u < 12 by omega), Bool.xor_true]
theorem wgt_opp (S : Nat) (x : Ed) (h1 : x.1.toNat < 12) (h2 : x.2.1.toNat < 12) : wgt (opp S) x = wgt S x := by
  unfold wgt
  rw [hs_opp S _ h1, hs_opp S _ h2]
  cases hs S x.1.toNat <;> cases hs S x.2.1.toNat <;> rfl
theorem valL_wgt (S S' : Nat) (l : List Ed) (h : ∀ x ∈ l, wgt S x = wgt S' x) : valL S l = valL S' l := by
  have key : ∀ k, k ≤ l.length → valL S (l.take k) = valL S' (l.take k) := by
    intro k
    induction k with
    | zero => intro _; rfl
    | succ k ih =>
      intro hk
      have hx : l[k]? = some l[k] := List.getElem?_eq_getElem (by omega)
      rw [take_at l k _ hx, valL_snoc, valL_snoc, ih (by omega), h _ (List.mem_of_getElem? hx)]
  have := key l.length (Nat.le_refl _)
  rwa [List.take_length] at this
theorem valL_opp (S : Nat) (l : List Ed) (hT : edgesT l) : valL (opp S) l = valL S l := valL_wgt _ _ l fun x hx => wgt_opp S x (hT x hx).1 (hT x hx).2.1
/-- The proper side with the characters of a side that begins with 0. -/
def prN (v S : Nat) : Nat := (S >>> (11 - v)) % 2 ^ v
theorem prN_lt (v S : Nat) : prN v S < 2 ^ v := Nat.mod_lt _ (Nat.pow_pos (by decide))
theorem prN_hs (v S : Nat) (hv : v < 12) (h0 : hs S 0 = false) (u : Nat) (hu : u < v + 1) : hs (prN v S * 2 ^ (12 - (v + 1))) u = hs S u := by
  rw [hs_mul _ _ u (by omega) (by omega)]
  unfold prN
  rw [Nat.testBit_mod_two_pow, Nat.testBit_shiftRight]
  by_cases e : u = 0
  · subst e
    rw [h0, decide_eq_false (by omega)]; rfl
  · rw [decide_eq_true (by omega), Bool.true_and]
    unfold hs
    congr 1; omega
theorem best_ge (v : Nat) (hv : v < 12) (l : List Ed) (hbl : below (v + 1) l) (hT : edgesT l) (S : Nat) : valL S l ≤ (bestL v l).2 := by
  have h1 : ∀ S, hs S 0 = false → valL S l ≤ (bestL v l).2 := fun S h0 => by
    have hx := prp_sd v (prN v S) (prN_lt v S) hv
    have : valL (prN v S * 2 ^ (12 - (v + 1))) l ≤ (bestL v l).2 := bst_ge (fun s => valL s l) (prp v) _ (List.mem_of_getElem? hx)
    rw [valL_below _ S (v + 1) l hbl (prN_hs v S hv h0)] at this
    exact this
  cases h0 : hs S 0 with
  | false => exact h1 S h0
  | true =>
    rw [← valL_opp S l hT]
    exact h1 _ (by rw [hs_opp S 0 (by decide), h0]; rfl)
theorem bst_att (f : Nat → Int) (l : List Nat) (hl : l ≠ []) (hf : ∀ x, -9223372036854775808 < f x) : (bst f l).2 = f (bst f l).1 ∧ (bst f l).1 ∈ l := by
  have key : ∀ (l : List Nat) (p : Nat × Int), ((l.foldl (bstep f) p) = p ∨ ((l.foldl (bstep f) p).2 = f (l.foldl (bstep f) p).1 ∧ (l.foldl (bstep f) p).1 ∈ l)) := by
    intro l
    induction l with
    | nil => intro p; exact .inl rfl
    | cons x l ih =>
      intro p
      rcases ih (bstep f p x) with h | ⟨h1, h2⟩
      · rw [List.foldl_cons, h]
        unfold bstep
        split
        · exact .inr ⟨rfl, List.mem_cons_self⟩
        · exact .inl rfl
      · exact .inr ⟨h1, List.mem_cons_of_mem _ h2⟩
  cases l with
  | nil => exact absurd rfl hl
  | cons x l =>
    have e : bst f (x :: l) = l.foldl (bstep f) (bstep f (0, -9223372036854775808) x) := rfl
    have e2 : bstep f (0, -9223372036854775808) x = (x, f x) := by unfold bstep; rw [if_pos (hf x)]
    rw [e, e2]
    rcases key l (x, f x) with h | ⟨h1, h2⟩
    · rw [h]; exact ⟨rfl, List.mem_cons_self⟩
    · exact ⟨h1, List.mem_cons_of_mem _ h2⟩
theorem best_att (v : Nat) (hv : v < 12) (l : List Ed) (hE : edgesOk l) : (bestL v l).2 = valL (bestL v l).1 l ∧ ∃ k, k < 2 ^ v ∧ (bestL v l).1 = k * 2 ^ (12 - (v + 1)) := by
  have hne : prp v ≠ [] := fun h => by
    have h1 := congrArg List.length h
    rw [show (prp v).length = 2 ^ v from sds_length _ _, List.length_nil] at h1
    have : 0 < 2 ^ v := Nat.pow_pos (by decide)
    omega
  obtain ⟨h1, h2⟩ := bst_att (fun s => valL s l) (prp v) hne (fun x => by have := (val_in x l hE).1; omega)
  refine ⟨h1, ?_⟩
  obtain ⟨k, hk, he⟩ := List.getElem_of_mem h2
  have hk' : k < 2 ^ v := by rw [show (prp v).length = 2 ^ v from sds_length _ _] at hk; exact hk
  have := prp_sd v k hk' hv
  rw [List.getElem?_eq_getElem hk, Option.some.injEq] at this
  exact ⟨k, hk', by rw [← this, he]; rfl⟩
theorem val_le_sum (S : Nat) (l : List Ed) (h : ∀ x ∈ l, 0 ≤ x.2.2) : valL S l ≤ (wsL l).sum := by
  have key : ∀ k, k ≤ l.length → valL S (l.take k) ≤ (wsL (l.take k)).sum := by
    intro k
    induction k with
    | zero => intro _; exact Int.le_refl _
    | succ k ih =>
      intro hk
      have hx : l[k]? = some l[k] := List.getElem?_eq_getElem (by omega)
      have h1 := h _ (List.mem_of_getElem? hx)
      have ih := ih (by omega)
      rw [take_at l k _ hx, valL_snoc]
      unfold wsL at ih ⊢
      rw [List.map_append, List.sum_append]
      simp only [List.map_cons, List.map_nil, List.sum_cons, List.sum_nil]
      have : wgt S l[k] ≤ l[k].2.2 := by unfold wgt; split <;> omega
      omega
  have := key l.length (Nat.le_refl _)
  rwa [List.take_length] at this
theorem sum_nonpos : ∀ (r : List Int), (∀ x ∈ r, x ≤ 0) → r.sum ≤ 0
  | [], _ => Int.le_refl _
  | x :: r, h => by
    have h1 := h x List.mem_cons_self
    have h2 := sum_nonpos r fun y hy => h y (List.mem_cons_of_mem _ hy)
    simp only [List.sum_cons]; omega
/-- At the end of a climb at least half of all weights is cut. -/
theorem clmb_half (d : Nat) (hd : d ≤ 12) (l : List Ed) (hE : edgesOk l) (hbl : below d l) (hT : edgesT l) (S : Nat) : (wsL l).sum ≤ 2 * valL (clmb l S).1 l := by
  obtain ⟨h1, _⟩ := clmb_spec d hd l hE hbl hT S
  have h2 := gains_sum (clmb l S).1 d hd l hbl hT
  have h3 := sum_nonpos ((List.range d).map (dgn l (clmb l S).1)) fun x hx => by
    obtain ⟨j, hj, rfl⟩ := List.mem_map.1 hx
    exact h1 j (List.mem_range.1 hj)
  omega
end Go.Proofs.Ytngonghgkeobhaa
