/- The walk of the reference's nearest whole number. -/
import Derived.Test.YtahkoihlpkaohaaDoorVh
namespace Go.Proofs.YtahkoihlpkaohaaDoor
open Go.RowKit
set_option linter.unusedVariables false
set_option linter.unusedSimpArgs false

theorem tdiv_two (a n : Int) (hn : 0 < n) : a / n ≤ a.tdiv n ∧ a.tdiv n ≤ a / n + 1 := by
  have h1 := Int.tmod_add_tdiv_mul a n
  have h2 := Int.tmod_lt_of_pos a hn
  have h3 : 0 ≤ a → 0 ≤ a.tmod n := fun h => Int.tmod_nonneg _ h
  have h4 : a ≤ 0 → a.tmod n ≤ 0 := fun h => by
    have := Int.tmod_nonneg (a := -a) n (by omega)
    rw [Int.neg_tmod] at this; omega
  have h5 : -n < a.tmod n := by
    have := Int.tmod_lt_of_pos (-a) hn
    rw [Int.neg_tmod] at this; omega
  have g1 := Int.emod_add_mul_ediv a n
  have g2 := Int.emod_lt_of_pos a hn
  have g3 := Int.emod_nonneg a (show n ≠ 0 by omega)
  generalize a.tmod n = m at *
  generalize a.tdiv n = t at *
  generalize a % n = r at *
  generalize a / n = q at *
  rw [Int.mul_comm t n] at h1
  constructor
  · rcases Int.lt_or_le t q with h | h
    · have := Int.mul_le_mul_of_nonneg_left (show t ≤ q - 1 by omega) (show 0 ≤ n by omega)
      rw [Int.mul_sub, Int.mul_one] at this; omega
    · exact h
  · rcases Int.lt_or_le (q + 1) t with h | h
    · have := Int.mul_le_mul_of_nonneg_left (show q + 2 ≤ t by omega) (show 0 ≤ n by omega)
      rw [Int.mul_add] at this; omega
    · exact h
set_option maxHeartbeats 1000000 in
theorem refNearest_c (a n : Int) (ha : sm 100000000000000 a) (hn : sm 100000000000000 n) (h0 : 0 < n) (w : World) :
    Calls Tryd.prog 34 #[.int .i64 a, .int .i64 n] w fun e w' => e = .returned (.int .i64 (refNear a n)) ∧ w = w' := by
  have ht := tdiv_two a n h0
  have g1 := Int.emod_add_mul_ediv a n
  have g2 := Int.emod_lt_of_pos a h0
  have g3 := Int.emod_nonneg a (show n ≠ 0 by omega)
  have hts := tdiv_sm a n _ ha
  unfold refNear
  unfold sm at ha hn hts
  obtain ⟨q, hq⟩ : ∃ q, a / n = q := ⟨_, rfl⟩
  obtain ⟨r, hr⟩ : ∃ r, a % n = r := ⟨_, rfl⟩
  obtain ⟨t, htt⟩ : ∃ t, a.tdiv n = t := ⟨_, rfl⟩
  rw [hq] at ht g1 ⊢
  rw [hr] at g1 g2 g3 ⊢
  rw [htt] at ht hts
  have hz : (n == 0) = false := by simp; omega
  have hz2 : n ≠ 0 := by omega
  have w1 : IntKind.i64.wrap t = t := IntWalk.i64_in _ (by omega)
  obtain ⟨F, hF⟩ : ∃ F, (if n < 2 * r then q + 1 else q) = F := ⟨_, rfl⟩
  rw [hF]
  have HF := Lib.hid hF
  have HQ := Lib.hid hq
  have HR := Lib.hid hr
  clear hF hq hr
  have hqn : n * q = q * n := Int.mul_comm _ _
  have G := Lib.hid (show q * n = a - r ∧ 0 ≤ r ∧ r < n from ⟨by omega, g3, g2⟩)
  have TT := Lib.hid htt
  clear g1 g2 g3 hqn
  go_enter Tryd.func34, Tryd.ntmps34
  go_wp2_with fail
  go_loopw [5] (fun v5 wr => ∃ k : Int, v5 = .int .i64 k ∧ q ≤ k ∧ k ≤ q + 1 ∧ wr = w) (fun v5 _ => (intOf v5 - q).toNat)
  case atStart => exact ⟨t, by (first | rfl | trace_state), ht.1, ht.2, rfl⟩
  case round =>
    obtain ⟨k, rfl, hk1, hk2, rfl⟩ := hrel
    obtain ⟨e1, e2, e3⟩ := G.out
    by_cases hk : k = q
    · subst hk
      have d1 : decide (a < k * n) = false := by rw [e1]; simp; omega
      have q1 : IntKind.i64.wrap (k * n) = k * n := IntWalk.i64_in _ (by omega)
      have q2 : IntKind.i64.wrap (a - k * n) = a - k * n := IntWalk.i64_in _ (by omega)
      have q3 : IntKind.i64.wrap (2 * (a - k * n)) = 2 * (a - k * n) := IntWalk.i64_in _ (by omega)
      have q4 : IntKind.i64.wrap (k + 1) = k + 1 := IntWalk.i64_in _ (by omega)
      by_cases hc : n < 2 * r
      · have d2 : decide (n < 2 * (a - k * n)) = true := by rw [e1]; simp; omega
        have HC := Lib.hid hc
        clear e1 e2 e3 hc
        go_wp2_with fail
        go_ret
        have hF := HF.out
        rw [if_pos HC.out] at hF
        subst hF
        exact ⟨rfl, rfl⟩
      · have d2 : decide (n < 2 * (a - k * n)) = false := by rw [e1]; simp; omega
        have HC := Lib.hid hc
        clear e1 e2 e3 hc
        go_wp2_with fail
        go_ret
        have hF := HF.out
        rw [if_neg (by have := HC.out; omega)] at hF
        subst hF
        exact ⟨rfl, rfl⟩
    · obtain rfl : k = q + 1 := by omega
      have e4 : (q + 1) * n = a - r + n := by rw [Int.add_mul, Int.one_mul, e1]
      have d1 : decide (a < (q + 1) * n) = true := by rw [e4]; simp; omega
      have q1 : IntKind.i64.wrap ((q + 1) * n) = (q + 1) * n := IntWalk.i64_in _ (by omega)
      have q2 : IntKind.i64.wrap (q + 1 - 1) = q + 1 - 1 := IntWalk.i64_in _ (by omega)
      clear e1 e2 e3 e4
      go_wp2_with fail
      go_roundw
      case rel => exact ⟨q, by (first | rfl | (congr 1; done) | (congr 1; omega)), by omega, by omega, by trivial⟩
      case measure => simp [intOf]; omega
end Go.Proofs.YtahkoihlpkaohaaDoor
