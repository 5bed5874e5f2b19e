/- What the orders of powers and of logarithms are: clear. -/
import Derived.Test.YtodopdfjjgpdeaaSk
import Derived.Test.YtodopdfjjgpdeaaSi
namespace Go.Proofs.Ytodopdfjjgpdeaa
open Go.RowKit
set_option linter.unusedVariables false

/-- No step twice, distance by distance. -/
theorem clearF_of (l : List Int) (h : ∀ d, 1 ≤ d → ∀ i k, i < k → k + d < l.length → nth l (i + d) - nth l i ≠ nth l (k + d) - nth l k) : clearF l = none := by
  refine clearF_none fun i p hi hp => ?_
  have hpm := prs_mem _ p (List.mem_of_getElem? hp)
  refine find_no fun j q hj hq => ?_
  have hqm := prs_mem _ q (List.mem_of_getElem? hq)
  rw [Bool.eq_false_iff]
  intro hc
  unfold cl2 at hc
  rw [Bool.and_eq_true, decide_eq_true_eq, decide_eq_true_eq] at hc
  obtain ⟨⟨h1, h2⟩, h3⟩ := hc
  unfold stp1 at h1
  unfold stp2 at h2
  refine h (p.2 - p.1) (by omega) p.1 q.1 h3 (by omega) ?_
  rw [show p.1 + (p.2 - p.1) = p.2 by omega, show q.1 + (p.2 - p.1) = q.2 by omega]
  exact h2
theorem ordB_of (l : List Int) (h1 : 1 ≤ l.length) (h2 : l.length ≤ 16) (hb : ∀ i, i < l.length → 0 ≤ nth l i ∧ nth l i < l.length) (hn : ∀ i k, i < k → k < l.length → nth l i ≠ nth l k) : ordB l = true := by
  have ha : l.all (hasB l.length) = true := by
    rw [List.all_eq_true]
    intro x hx
    obtain ⟨i, hi, rfl⟩ := List.getElem_of_mem hx
    have := hb i hi
    simp only [nth, List.getElem?_eq_getElem hi, Option.getD_some] at this
    exact (hasB_iff _ _).2 this
  have hd : l.Nodup := by
    rw [List.nodup_iff_pairwise_ne, List.pairwise_iff_getElem]
    intro i k hi hk hik
    have := hn i k hik hk
    simpa only [nth, List.getElem?_eq_getElem hi, List.getElem?_eq_getElem hk, Option.getD_some] using this
  simp [ordB, rowsB, h1, h2, ha, hd]

/-- The powers, round and round. -/
def cycB (p g : Nat) : Bool := (List.range (p - 1)).all fun k => (List.range k).all fun i => (decide (pwr p g i ≠ pwr p g k)) && (List.range' 1 (p - 2)).all fun d => decide (pwr p g ((i + d) % (p - 1)) + pwr p g k ≠ pwr p g ((k + d) % (p - 1)) + pwr p g i)
theorem cyc_ev : ((List.range 18).all fun p => !primeB p || (List.range p).all fun g => !rootB p g || (cycB p g && (List.range (p - 1)).all fun i => decide (1 ≤ pwr p g i))) = true := by decide +kernel
theorem cyc_of (p g : Nat) (hp : primeB p = true) (hr : rootB p g = true) : (∀ i k d, i < p - 1 → k < p - 1 → i ≠ k → pwr p g i ≠ pwr p g k ∧ (1 ≤ d → d ≤ p - 2 → pwr p g ((i + d) % (p - 1)) + pwr p g k ≠ pwr p g ((k + d) % (p - 1)) + pwr p g i)) ∧ ∀ i, i < p - 1 → 1 ≤ pwr p g i := by
  have hp17 : 3 ≤ p ∧ p ≤ 17 := by simp [primeB] at hp; omega
  have hg : 1 ≤ g ∧ g < p := by simp [rootB] at hr; omega
  have h2 := List.all_eq_true.1 cyc_ev p (List.mem_range.2 (by omega))
  rw [hp, Bool.not_true, Bool.false_or] at h2
  have h3 := List.all_eq_true.1 h2 g (List.mem_range.2 hg.2)
  rw [hr, Bool.not_true, Bool.false_or, Bool.and_eq_true] at h3
  have key : ∀ i k d, k < p - 1 → i < k → pwr p g i ≠ pwr p g k ∧ (1 ≤ d → d ≤ p - 2 → pwr p g ((i + d) % (p - 1)) + pwr p g k ≠ pwr p g ((k + d) % (p - 1)) + pwr p g i) := by
    intro i k d hk hik
    have h4 := List.all_eq_true.1 (List.all_eq_true.1 h3.1 k (List.mem_range.2 hk)) i (List.mem_range.2 hik)
    rw [Bool.and_eq_true, decide_eq_true_eq] at h4
    refine ⟨h4.1, fun d1 d2 => ?_⟩
    have := List.all_eq_true.1 h4.2 d (List.mem_range'_1.2 ⟨d1, by omega⟩)
    simpa only [decide_eq_true_eq] using this
  refine ⟨fun i k d hi hk hne => ?_, fun i hi => ?_⟩
  · by_cases hik : i < k
    · exact key i k d hk hik
    · have := key k i d hi (by omega)
      exact ⟨fun e => this.1 e.symm, fun d1 d2 e => this.2 d1 d2 e.symm⟩
  · have := List.all_eq_true.1 h3.2 i (List.mem_range.2 hi)
    simpa only [decide_eq_true_eq] using this
theorem mod_ne (n i k s : Nat) (h : i < k) (hk : k < n) : (i + s) % n ≠ (k + s) % n := by
  intro e
  have h1 := Nat.sub_mod_eq_zero_of_mod_eq e.symm
  rw [show k + s - (i + s) = k - i by omega, Nat.mod_eq_of_lt (by omega)] at h1
  omega
theorem powL_length (p g s : Nat) : (powL p g s).length = p - 1 := by simp [powL]
theorem powL_at (p g s i : Nat) (h : i < p - 1) : nth (powL p g s) i = (pwr p g ((i + s) % (p - 1)) : Int) - 1 := by simp [powL, nth, h]
theorem pow_known (p g s : Nat) (hp : primeB p = true) (hr : rootB p g = true) : ordB (powL p g s) = true ∧ clearF (powL p g s) = none := by
  have hp17 : 3 ≤ p ∧ p ≤ 17 := by simp [primeB] at hp; omega
  obtain ⟨hc, h1⟩ := cyc_of p g hp hr
  have hm : ∀ i, (i + s) % (p - 1) < p - 1 := fun i => Nat.mod_lt _ (by omega)
  constructor
  · refine ordB_of _ (by rw [powL_length]; omega) (by rw [powL_length]; omega) (fun i hi => ?_) (fun i k hik hk => ?_)
    · rw [powL_length] at hi ⊢
      rw [powL_at _ _ _ _ hi]
      have h2 := h1 _ (hm i)
      have h3 := pwr_lt p g (by omega) ((i + s) % (p - 1))
      omega
    · rw [powL_length] at hk
      rw [powL_at _ _ _ _ (by omega), powL_at _ _ _ _ hk]
      have := (hc _ _ 0 (hm i) (hm k) (mod_ne _ i k s hik hk)).1
      omega
  · refine clearF_of _ fun d hd i k hik hkd => ?_
    rw [powL_length] at hkd
    rw [powL_at _ _ _ _ (by omega), powL_at _ _ _ _ (by omega), powL_at _ _ _ _ (by omega), powL_at _ _ _ _ (by omega)]
    have := (hc _ _ d (hm i) (hm k) (mod_ne _ i k s hik (by omega))).2 hd (by omega)
    rw [Nat.mod_add_mod, Nat.mod_add_mod, show i + s + d = i + d + s by omega, show k + s + d = k + d + s by omega] at this
    omega

/-- The orders of logarithms, one by one. -/
def dclrB (l : List Int) : Bool := (List.range' 1 (l.length - 1)).all fun d => (List.range (l.length - d)).all fun k => (List.range k).all fun i => decide (nth l (i + d) - nth l i ≠ nth l (k + d) - nth l k)
theorem lck_ev : ((List.range 18).all fun p => !primeB p || (List.range p).all fun g => !rootB p g || (List.range p).all fun h => !rootB p h || (ordB (logL p g h) && dclrB (logL p g h))) = true := by decide +kernel
theorem log_known (p g h : Nat) (hp : primeB p = true) (hr : rootB p g = true) (hrh : rootB p h = true) : ordB (logL p g h) = true ∧ clearF (logL p g h) = none := by
  have hp17 : 3 ≤ p ∧ p ≤ 17 := by simp [primeB] at hp; omega
  have hg : 1 ≤ g ∧ g < p := by simp [rootB] at hr; omega
  have hh : 1 ≤ h ∧ h < p := by simp [rootB] at hrh; omega
  have h2 := List.all_eq_true.1 lck_ev p (List.mem_range.2 (by omega))
  rw [hp, Bool.not_true, Bool.false_or] at h2
  have h3 := List.all_eq_true.1 h2 g (List.mem_range.2 hg.2)
  rw [hr, Bool.not_true, Bool.false_or] at h3
  have h4 := List.all_eq_true.1 h3 h (List.mem_range.2 hh.2)
  rw [hrh, Bool.not_true, Bool.false_or, Bool.and_eq_true] at h4
  refine ⟨h4.1, clearF_of _ fun d hd i k hik hkd => ?_⟩
  have h5 := List.all_eq_true.1 (List.all_eq_true.1 (List.all_eq_true.1 h4.2 d (List.mem_range'_1.2 ⟨hd, by omega⟩)) k (List.mem_range.2 (by omega))) i (List.mem_range.2 hik)
  simpa only [decide_eq_true_eq] using h5
end Go.Proofs.Ytodopdfjjgpdeaa
