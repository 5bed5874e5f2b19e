/- The parts of a plain text, and that its value is the number. -/
import Derived.Test.YtfekggmdhmkemaaDoorZn
import Derived.Test.YtfekggmdhmkemaaDoorZs
namespace Go.Proofs.YtfekggmdhmkemaaDoor
open Go.RowKit
set_option linter.unusedVariables false
set_option linter.unusedSimpArgs false

theorem tw_app (F rest : List UInt8) (hF : ∀ c ∈ F, okD c) (hR : ∀ c, rest.head? = some c → ¬ okD c) : (F ++ rest).takeWhile dig = F ∧ (F ++ rest).dropWhile dig = rest := by
  induction F with
  | nil =>
    cases rest with
    | nil => exact ⟨rfl, rfl⟩
    | cons c r =>
      have : dig c = false := by
        cases h : dig c with
        | false => rfl
        | true => exact absurd ((dig_ok c).1 h) (hR c rfl)
      simp [List.takeWhile_cons, List.dropWhile_cons, this]
  | cons c F ih =>
    have hc := (dig_ok c).2 (hF c List.mem_cons_self)
    obtain ⟨h1, h2⟩ := ih (fun d hd => hF d (List.mem_cons_of_mem _ hd))
    simp [List.takeWhile_cons, List.dropWhile_cons, hc, h1, h2]
theorem prs_one (F : List UInt8) (hF : ∀ c ∈ F, okD c) (f1 : 1 ≤ F.length) (f2 : F.length ≤ 40) : prs F = some (F, []) := by
  have h := tw_app F [] hF (fun c h => by cases h)
  rw [List.append_nil] at h
  unfold prs
  rw [h.1, h.2, if_neg (by omega)]
theorem prs_two (F G : List UInt8) (hF : ∀ c ∈ F, okD c) (hG : ∀ c ∈ G, okD c) (f1 : 1 ≤ F.length) (f2 : F.length ≤ 40) (g1 : 1 ≤ G.length) (g2 : G.length ≤ 40) : prs (F ++ 46 :: G) = some (F, G) := by
  have h := tw_app F (46 :: G) hF (fun c h => by obtain rfl := Option.some.inj h; unfold okD; decide)
  have h2 := tw_app G [] hG (fun c h => by cases h)
  rw [List.append_nil] at h2
  unfold prs
  rw [h.1, h.2, if_neg (by omega)]
  simp only [if_true, h2.1, h2.2]
  rw [if_neg (by omega)]
theorem dgs_ok (x : Int × Int) (a b : Nat) : ∀ c ∈ dgs x a b, okD c := fun c hc => by
  rcases dgs_okD x a b c hc with h | h
  · exact .inl h
  · exact .inr (.inl h)
theorem dgs_noughts (x : Int × Int) (a b : Nat) (h : ∀ n, a ≤ n → n < b → dgt x n = 48) : dgs x a b = List.replicate (b - a) 48 := by
  apply List.eq_replicate_iff.2
  exact ⟨dgs_length x a b, dgs_zero x a b h⟩
theorem txt_prs (x : Int × Int) (n0 n1 : Nat) (h : Span x n0 n1) : prs (txt x n0 n1) = some (dgs x n0 40, dgs x 40 n1) ∧ digL (dgs x n0 40) (dgs x 40 n1) = plainL x := by
  obtain ⟨h0, h1, h2, low, first, high, last⟩ := h
  have l1 := dgs_length x n0 40
  have l2 := dgs_length x 40 n1
  refine ⟨?_, ?_⟩
  · unfold txt
    by_cases hc : n1 ≤ 40
    · obtain rfl : n1 = 40 := by omega
      rw [if_pos hc, dgs_self]
      exact prs_one _ (dgs_ok x n0 40) (by omega) (by omega)
    · rw [if_neg hc]
      exact prs_two _ _ (dgs_ok x n0 40) (dgs_ok x 40 n1) (by omega) (by omega) (by omega) (by omega)
  · unfold digL
    rw [l1, l2, plain_dgs, dgs_add x 0 n0 80 (by omega) (by omega), dgs_add x n0 40 80 (by omega) (by omega), dgs_add x 40 n1 80 h1 h2, dgs_noughts x 0 n0 (fun n _ hn => low n hn), dgs_noughts x n1 80 high]
    rw [show 40 - (40 - n0) = n0 - 0 by omega, show 40 - (n1 - 40) = 80 - n1 by omega, List.append_assoc]
theorem valJ_plain (x : Int × Int) : ∀ j, j ≤ 80 → valJ (plainL x) j = minusG x (xr x j)
  | 0, _ => by show (0, 0) = minusG x x; unfold minusG; simp
  | j + 1, h => by
    rw [valJ_succ _ j (by omega), valJ_plain x j (by omega)]
    have hd : digA (plainL x) (39 - (j : Int)) = ((dgt x j).toNat : Int) - 48 := by
      unfold digA
      rw [show (39 - (39 - (j : Int))).toNat = j by omega, plain_map]
      simp [show j < 80 by omega]
    unfold valS
    rw [hd]
    by_cases hc : nn (minusG (xr x j) (pw (39 - (j : Int))))
    · have e := congrArg Prod.fst (xr_yes x j (by omega) hc)
      rw [show (prJ x (j + 1)).1 = xr x (j + 1) from rfl] at e
      rw [e, show dgt x j = 49 by unfold dgt; rw [if_pos hc]]
      rw [show ((49 : UInt8).toNat : Int) - 48 = 1 from rfl]
      unfold plusG timesG minusG
      apply Prod.ext <;> simp <;> omega
    · have e := congrArg Prod.fst (xr_no x j (by omega) hc)
      rw [show (prJ x (j + 1)).1 = xr x (j + 1) from rfl, show (prJ x j).1 = xr x j from rfl] at e
      rw [e, show dgt x j = 48 by unfold dgt; rw [if_neg hc]]
      rw [show ((48 : UInt8).toNat : Int) - 48 = 0 from rfl]
      unfold plusG timesG minusG
      apply Prod.ext <;> simp
theorem valG_plain (x : Int × Int) (hx : sm2 1000000 x) (hn : nn x) : valG (plainL x) = x := by
  unfold valG
  rw [valJ_plain x 80 (Nat.le_refl _), xr_end x hx hn]
  unfold minusG
  simp
/-- What the law asks of a plain text. -/
theorem back_facts (x : Int × Int) (hx : sm2 1000000 x) (hn : nn x) : ∃ n : Nat, ∃ F G : List UInt8, prs (textG x) = some (F, G) ∧ valG (digL F G) = x ∧ F.length = n ∧ 1 ≤ n ∧ n ≤ 40 ∧ (textG x).length ≤ 81 ∧ n ≤ (textG x).length ∧ plB (textG x) = true ∧
    (∀ j, j < n → (textG x)[j]?.getD 0 ≠ 46) ∧ (n < (textG x).length → (textG x)[n]?.getD 0 = 46) ∧
    ((textG x)[0]?.getD 0 = 48 → po (minusG (1, 0) x)) ∧ ((textG x)[0]?.getD 0 ≠ 48 → nn (minusG x (pw ((n : Int) - 1))) ∧ po (minusG (pw (n : Int)) x)) := by
  obtain ⟨n0, n1, sp, s1, s2, s3⟩ := span_of x hx hn
  have ht := text_span x n0 n1 sp
  obtain ⟨hp, hd⟩ := txt_prs x n0 n1 sp
  have hpl := plain_is x hx hn n0 n1 sp
  obtain ⟨h0, h1, h2, low, first, high, last⟩ := sp
  rw [ht]
  have l1 := dgs_length x n0 40
  have hlen : (txt x n0 n1).length = if n1 ≤ 40 then 40 - n0 else 40 - n0 + 1 + (n1 - 40) := by
    unfold txt
    split
    · rw [dgs_length]; omega
    · rw [List.length_append, List.length_cons, dgs_length, dgs_length]; omega
  have hle : (txt x n0 n1).length ≤ 81 ∧ 40 - n0 ≤ (txt x n0 n1).length := by rw [hlen]; split <;> omega
  have hat : ∀ j, j < 40 - n0 → (txt x n0 n1)[j]?.getD 0 = dgt x (n0 + j) := fun j hj => by
    unfold txt
    split
    · obtain rfl : n1 = 40 := by omega
      exact dgs_at x n0 40 j hj
    · rw [List.getElem?_append_left (by rw [l1]; exact hj)]
      exact dgs_at x n0 40 j hj
  refine ⟨40 - n0, dgs x n0 40, dgs x 40 n1, hp, by rw [hd, valG_plain x hx hn], l1, by omega, by omega, hle.1, hle.2, hpl, fun j hj => ?_, fun hlt => ?_, fun h48 => ?_, fun h48 => ?_⟩
  · rw [hat j hj]
    rcases dgt_or x (n0 + j) with h | h <;> rw [h] <;> decide
  · unfold txt
    by_cases hc : n1 ≤ 40
    · exfalso
      rw [hlen, if_pos hc] at hlt
      omega
    · rw [if_neg hc, List.getElem?_append_right (by rw [l1]; exact Nat.le_refl _), l1, Nat.sub_self]
      rfl
  · rw [hat 0 (by omega)] at h48
    have e39 : n0 = 39 := by
      rcases Nat.lt_or_ge n0 39 with h | h
      · rw [show n0 + 0 = n0 by omega, first h] at h48; exact absurd h48 (by decide)
      · omega
    subst e39
    have hst := (xr_start x 0 (by omega) s3 39 (by omega)).1
    have hx39 : xr x 39 = x := congrArg Prod.fst hst
    have hnc : ¬ nn (minusG (xr x 39) (pw (39 - ((39 : Nat) : Int)))) := fun hc => by
      rw [show 39 + 0 = 39 from rfl] at h48
      unfold dgt at h48
      rw [if_pos hc] at h48
      exact absurd h48 (by decide)
    rw [hx39, show (39 : Int) - ((39 : Nat) : Int) = ((0 : Nat) : Int) by omega, pw_0] at hnc
    exact not_nn hnc (by simp only [minusG]; omega) (by simp only [minusG]; omega)
  · rw [hat 0 (by omega), show n0 + 0 = n0 by omega] at h48
    refine ⟨?_, s3⟩
    rcases Nat.lt_or_ge n0 39 with h | h
    · have := s2 h
      rw [show ((40 - n0 : Nat) : Int) - 1 = ((39 - n0 : Nat) : Int) by omega]
      exact this
    · obtain rfl : n0 = 39 := by omega
      have hst := (xr_start x 0 (by omega) s3 39 (by omega)).1
      have hx39 : xr x 39 = x := congrArg Prod.fst hst
      have hc : nn (minusG (xr x 39) (pw (39 - ((39 : Nat) : Int)))) := by
        by_cases hc : nn (minusG (xr x 39) (pw (39 - ((39 : Nat) : Int))))
        · exact hc
        · unfold dgt at h48; rw [if_neg hc] at h48; exact absurd rfl h48
      rw [hx39] at hc
      exact hc
end Go.Proofs.YtfekggmdhmkemaaDoor
