/- What the recursion holds for clear is clear: clearB is clearF's none. -/
import Derived.Test.YtdploccpobpjjaaRc
namespace Go.Proofs.Ytdploccpobpjjaa
open Go.RowKit
set_option linter.unusedVariables false

theorem lastB_hit {l : List Int} {q : Nat} (hq : q < l.length) : lastB (l.take (q + 1)) = true ↔ ∃ i j k, i < j ∧ i < k ∧ k + j - i = q ∧ hitP l i j k := by
  have hlen : (l.take (q + 1)).length - 1 = q := by rw [List.length_take]; omega
  unfold lastB
  rw [hlen]
  simp only [List.any_eq_true, List.mem_range, sameStep, decide_eq_true_eq]
  constructor
  · rintro ⟨f, hf, ⟨i, j⟩, hx, h1, h2⟩
    have hm := prs_mem _ _ hx
    simp only at h1 h2 hm
    unfold stp1 at h1
    rw [stp2_take l (q + 1) i j (by omega) (by omega), stp2_take l (q + 1) f q (by omega) (by omega)] at h2
    unfold stp2 at h2
    have hkq : f + j - i = q := by omega
    refine ⟨i, j, f, hm.1, by omega, hkq, ?_⟩
    unfold hitP
    rw [hkq]
    exact h2
  · rintro ⟨i, j, k, hij, hik, hkq, hh⟩
    unfold hitP at hh
    rw [hkq] at hh
    refine ⟨k, by omega, (i, j), prs_has _ _ _ hij (by omega), ?_, ?_⟩
    · unfold stp1; omega
    · simp only
      rw [stp2_take l (q + 1) i j (by omega) (by omega), stp2_take l (q + 1) k q (by omega) (by omega)]
      exact hh
theorem clearB_iff (l : List Int) : clearB l = (clearF l).isNone := by
  cases hB : clearB l with
  | true =>
    rw [clearF_nohit]
    · rfl
    · intro i hi j hij hj k hik hk hh
      unfold clearB at hB
      rw [List.all_eq_true] at hB
      have := hB (k + j - i) (List.mem_range.2 hk)
      rw [(lastB_hit hk).2 ⟨i, j, k, hij, hik, rfl, hh⟩] at this
      cases this
  | false =>
    unfold clearB at hB
    rw [List.all_eq_false] at hB
    obtain ⟨q, hq, hl⟩ := hB
    have hq := List.mem_range.1 hq
    have hl : lastB (l.take (q + 1)) = true := by simpa using hl
    obtain ⟨i, j, k, hij, hik, hkq, hh⟩ := (lastB_hit hq).1 hl
    cases hF : clearF l with
    | some x => rfl
    | none =>
      exfalso
      unfold clearF at hF
      rw [List.findSome?_eq_none_iff] at hF
      have h1 := hF (i, j) (prs_has _ _ _ hij (by omega))
      rw [Option.map_eq_none_iff, List.find?_eq_none] at h1
      refine h1 (k, k + j - i) (prs_has _ _ _ (by omega) (by omega)) ?_
      simp only [cl2, Bool.and_eq_true, decide_eq_true_eq]
      unfold stp1 stp2
      exact ⟨⟨by omega, hh⟩, hik⟩
end Go.Proofs.Ytdploccpobpjjaa
