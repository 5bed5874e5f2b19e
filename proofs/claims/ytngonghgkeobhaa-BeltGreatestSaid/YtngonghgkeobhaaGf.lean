/- What the law Greatest asks. -/
import Derived.Test.YtngonghgkeobhaaFa
import Derived.Test.YtngonghgkeobhaaGe
namespace Go.Proofs.Ytngonghgkeobhaa
open Go.RowKit Go.Shelf
set_option linter.unusedVariables false
set_option linter.unusedSimpArgs false

theorem least_not (P : Nat → Prop) [DecidablePred P] : ∀ n, ∃ k, k ≤ n ∧ (∀ j, j < k → P j) ∧ (k < n → ¬ P k)
  | 0 => ⟨0, Nat.le_refl _, fun j h => by omega, fun h => by omega⟩
  | n + 1 => by
    obtain ⟨k, h1, h2, h3⟩ := least_not P n
    by_cases hk : k < n
    · exact ⟨k, by omega, h2, fun _ => h3 hk⟩
    · obtain rfl : k = n := by omega
      by_cases hp : P k
      · refine ⟨k + 1, Nat.le_refl _, fun j hj => ?_, fun h => by omega⟩
        by_cases e : j = k
        · subst e; exact hp
        · exact h2 j (by omega)
      · exact ⟨k, by omega, h2, fun _ => hp⟩
/-- A sorted list with the same members. -/
theorem sorted_of : ∀ l : List Int, ∃ R : List Int, R.Pairwise (· < ·) ∧ ∀ x, x ∈ R ↔ x ∈ l
  | [] => ⟨[], List.Pairwise.nil, fun x => Iff.rfl⟩
  | y :: l => by
    obtain ⟨R, h1, h2⟩ := sorted_of l
    by_cases hy : y ∈ R
    · refine ⟨R, h1, fun x => ?_⟩
      rw [List.mem_cons, h2 x]
      exact ⟨.inr, fun h => h.elim (fun e => by rw [e]; exact (h2 y).1 hy) id⟩
    · obtain ⟨k, k1, k2, k3⟩ := least_not (fun j => nth R j < y) R.length
      obtain ⟨s1, _, s3⟩ := ins_sorted R y k k1 h1 k2 (fun h => by
        have h3 := k3 h
        have : nth R k ≠ y := fun e => hy (e ▸ nth_mem R k h)
        omega)
      refine ⟨_, s1, fun x => ?_⟩
      rw [s3 x, h2 x, List.mem_cons]
      exact or_comm
theorem last_max (R : List Int) (V : Int) (hs : R.Pairwise (· < ·)) (hV : V ∈ R) (hm : ∀ x ∈ R, x ≤ V) : nth R (R.length - 1) = V := by
  have hl : 0 < R.length := List.length_pos_of_mem hV
  obtain ⟨i, hi, he⟩ := List.getElem_of_mem hV
  have h1 := hm _ (nth_mem R (R.length - 1) (by omega))
  by_cases e : i = R.length - 1
  · subst e
    rw [← he]; simp [nth, List.getElem?_eq_getElem hi]
  · have h2 := List.pairwise_iff_getElem.1 hs i (R.length - 1) hi (by omega) (by omega)
    rw [he] at h2
    rw [show nth R (R.length - 1) = R[R.length - 1]'(by omega) by simp [nth, List.getElem?_eq_getElem (show R.length - 1 < R.length by omega)]] at h1 ⊢
    omega
theorem val_mem (v : Nat) (hv : v < 12) (l : List Ed) (hbl : below (v + 1) l) (hT : edgesT l) (S : Nat) : valL S l ∈ (prp v).map fun s => valL s l := by
  have h1 : ∀ S, hs S 0 = false → valL S l ∈ (prp v).map fun s => valL s l := fun S h0 =>
    List.mem_map.2 ⟨_, List.mem_of_getElem? (prp_sd v (prN v S) (prN_lt v S) hv), valL_below _ S (v + 1) l hbl (prN_hs v S hv h0)⟩
  cases h0 : hs S 0 with
  | false => exact h1 S h0
  | true =>
    rw [← valL_opp S l hT]
    exact h1 _ (by rw [hs_opp S 0 (by decide), h0]; rfl)
/-- The best of some is the first that has its value. -/
theorem bst_first (f : Nat → Int) (l : List Nat) (hf : ∀ x, -9223372036854775808 < f x) : ∀ k, 0 < k → k ≤ l.length → ∃ i, i < k ∧ l[i]? = some (bst f (l.take k)).1 ∧ f (bst f (l.take k)).1 = (bst f (l.take k)).2 ∧ ∀ (j y : Nat), j < i → l[j]? = some y → f y < (bst f (l.take k)).2
  | 0, h, _ => absurd h (by omega)
  | k + 1, _, hk => by
    have hx : l[k]? = some l[k] := List.getElem?_eq_getElem (by omega)
    rw [bst_take f l k _ hx]
    rcases Nat.eq_zero_or_pos k with rfl | hk0
    · have e : bst f (l.take 0) = (0, -9223372036854775808) := rfl
      rw [e]
      unfold bstep
      rw [if_pos (hf _)]
      exact ⟨0, by omega, hx, rfl, fun j y h => by omega⟩
    · obtain ⟨i, h1, h2, h3, h4⟩ := bst_first f l hf k hk0 (by omega)
      have hge := bst_ge f (l.take k)
      generalize bst f (l.take k) = p at *
      unfold bstep
      by_cases h : p.2 < f l[k]
      · rw [if_pos h]
        refine ⟨k, by omega, hx, rfl, fun j y hj hy => ?_⟩
        have := hge y (List.mem_of_getElem? (by rw [List.getElem?_take, if_pos hj]; exact hy : (l.take k)[j]? = some y))
        show f y < f l[k]
        omega
      · rw [if_neg h]
        exact ⟨i, by omega, h2, h3, h4⟩
theorem best_first (v : Nat) (hv : v < 12) (l : List Ed) (hE : edgesOk l) : ∃ i, i < 2 ^ v ∧ (bestL v l).1 = i * 2 ^ (12 - (v + 1)) ∧ ∀ j, j < i → valL (j * 2 ^ (12 - (v + 1))) l < (bestL v l).2 := by
  have hlen : (prp v).length = 2 ^ v := sds_length _ _
  have hp : 0 < 2 ^ v := Nat.pow_pos (by decide)
  obtain ⟨i, h1, h2, h3, h4⟩ := bst_first (fun s => valL s l) (prp v) (fun x => by have := (val_in x l hE).1; omega) (prp v).length (by omega) (Nat.le_refl _)
  rw [List.take_length] at h2 h3 h4
  rw [hlen] at h1
  rw [prp_sd v i h1 hv, Option.some.injEq] at h2
  exact ⟨i, h1, h2.symm, fun j hj => h4 j _ hj (prp_sd v j (by omega) hv)⟩
theorem less_snoc : ∀ (x y : List UInt8) (a b : UInt8), x.length = y.length → Op.bytesLess (x ++ [a]) (y ++ [b]) = (Op.bytesLess x y || (x == y && decide (a < b)))
  | [], [], a, b, _ => by simp [Op.bytesLess]
  | [], _ :: _, _, _, h => by simp at h
  | _ :: _, [], _, _, h => by simp at h
  | c :: x, d :: y, a, b, h => by
    have ih := less_snoc x y a b (by simpa using h)
    simp only [List.cons_append, Op.bytesLess, ih]
    by_cases hcd : c = d
    · subst hcd
      simp
    · have : (c == d) = false := by simpa using hcd
      simp [this, hcd]
/-- The texts of sides stand in the order of their numbers. -/
theorem txt_order : ∀ (d : Nat), d ≤ 12 → ∀ (q i : Nat), q < 2 ^ d → i ≤ q → Op.bytesLess (txt (q * 2 ^ (12 - d)) d) (txt (i * 2 ^ (12 - d)) d) = false ∧ (i < q → txt (q * 2 ^ (12 - d)) d ≠ txt (i * 2 ^ (12 - d)) d)
  | 0, _, q, i, hq, _ => ⟨rfl, fun h => by simp at hq; omega⟩
  | d + 1, hd, q, i, hq, hiq => by
    have step : ∀ k, txt (k * 2 ^ (12 - (d + 1))) (d + 1) = txt (k / 2 * 2 ^ (12 - d)) d ++ [if k % 2 = 1 then 49 else 48] := fun k => by
      have e := congrArg (fun b : ByteArray => b.data.toList) (show TX (k * 2 ^ (12 - (d + 1))) (d + 1) = TX (k / 2 * 2 ^ (12 - d)) d ++ ⟨#[if k % 2 = 1 then 49 else 48]⟩ by
        rcases Nat.mod_two_eq_zero_or_one k with h | h
        · rw [if_neg (by omega), ← sdl_even d (k / 2) (by omega), show 2 * (k / 2) = k by omega]
        · rw [if_pos h, ← sdl_odd d (k / 2) (by omega), show 2 * (k / 2) + 1 = k by omega])
      simpa [TX] using e
    have hpw : 2 ^ (d + 1) = 2 ^ d * 2 := Nat.pow_succ 2 d
    obtain ⟨h1, h2⟩ := txt_order d (by omega) (q / 2) (i / 2) (by omega) (by omega)
    rw [step q, step i]
    have hlen : (txt (q / 2 * 2 ^ (12 - d)) d).length = (txt (i / 2 * 2 ^ (12 - d)) d).length := by rw [txt_length, txt_length]
    refine ⟨?_, fun hlt e => ?_⟩
    · rw [less_snoc _ _ _ _ hlen, h1, Bool.false_or]
      by_cases e : i / 2 < q / 2
      · have := h2 e
        rw [show (txt (q / 2 * 2 ^ (12 - d)) d == txt (i / 2 * 2 ^ (12 - d)) d) = false by simpa using this]; rfl
      · have hb : ¬ ((if q % 2 = 1 then (49 : UInt8) else 48) < if i % 2 = 1 then 49 else 48) := by
          by_cases hi : i % 2 = 1
          · rw [if_pos hi, if_pos (by omega)]; decide
          · rw [if_neg hi]; split <;> decide
        rw [decide_eq_false hb, Bool.and_false]
    · have hh := List.append_inj e hlen
      by_cases e2 : i / 2 < q / 2
      · exact h2 e2 hh.1
      · have h3 := hh.2
        rw [if_pos (show q % 2 = 1 by omega), if_neg (show ¬ i % 2 = 1 by omega)] at h3
        simp at h3
end Go.Proofs.Ytngonghgkeobhaa
