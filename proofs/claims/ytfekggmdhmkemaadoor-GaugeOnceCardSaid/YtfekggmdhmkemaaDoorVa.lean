/- The walks of the reference's numbers, signs and differences, and of Compare; the law GaugeCompares. -/
import Derived.Test.YtfekggmdhmkemaaDoorGq
import Derived.BigQuiet
namespace Go.Proofs.YtfekggmdhmkemaaDoor
open Go.RowKit
set_option linter.unusedVariables false
set_option linter.unusedSimpArgs false


set_option maxHeartbeats 1000000 in
theorem refNumber_c (a b : Int) (w : World) : Calls Tryd.prog 14 #[.agg #[.int .i64 a, .int .i64 b]] w fun e w' => e = .returned (.bool (numB a b)) ∧ w.alloc (.cells #[.int .i64 a, .int .i64 b] 24) = w' := by
  unfold numB cooB
  by_cases h0 : -1000000 ≤ a
  rotate_left
  · have d0 : decide (-1000000 ≤ a) = false := by simpa using h0
    go_enter Tryd.func14, Tryd.ntmps14
    go_wp2_with fail
    go_ret
    refine ⟨ret_bool ?_, rfl⟩
    simp [h0]
  have d0 : decide (-1000000 ≤ a) = true := by simpa using h0
  by_cases h1 : a ≤ 1000000
  rotate_left
  · have d1 : decide (a ≤ 1000000) = false := by simpa using h1
    go_enter Tryd.func14, Tryd.ntmps14
    go_wp2_with fail
    go_ret
    refine ⟨ret_bool ?_, rfl⟩
    simp [h0, h1]
  have d1 : decide (a ≤ 1000000) = true := by simpa using h1
  by_cases h2 : -1000000 ≤ b
  rotate_left
  · have d2 : decide (-1000000 ≤ b) = false := by simpa using h2
    go_enter Tryd.func14, Tryd.ntmps14
    go_wp2_with fail
    go_ret
    refine ⟨ret_bool ?_, rfl⟩
    simp [h0, h1, h2]
  have d2 : decide (-1000000 ≤ b) = true := by simpa using h2
  by_cases h3 : b ≤ 1000000
  rotate_left
  · have d3 : decide (b ≤ 1000000) = false := by simpa using h3
    go_enter Tryd.func14, Tryd.ntmps14
    go_wp2_with fail
    go_ret
    refine ⟨ret_bool ?_, rfl⟩
    simp [h0, h1, h2, h3]
  have d3 : decide (b ≤ 1000000) = true := by simpa using h3
  go_enter Tryd.func14, Tryd.ntmps14
  go_wp2_with fail
  go_ret
  refine ⟨ret_bool ?_, rfl⟩
  simp [h0, h1, h2, h3]
set_option maxHeartbeats 1000000 in
theorem refMinus_c (a b c d : Int) (ha : sm 1000000000000 a) (hb : sm 1000000000000 b) (hc : sm 1000000000000 c) (hd : sm 1000000000000 d) (w : World) :
    Calls Tryd.prog 31 #[.agg #[.int .i64 a, .int .i64 b], .agg #[.int .i64 c, .int .i64 d]] w fun e w' => e = .returned (.agg #[.int .i64 (a - c), .int .i64 (b - d)]) ∧ Keeps w w' := by
  have ha2 := ha
  unfold sm at ha2
  obtain ⟨a1, a2⟩ := ha2
  have hb2 := hb
  unfold sm at hb2
  obtain ⟨b1, b2⟩ := hb2
  have hc2 := hc
  unfold sm at hc2
  obtain ⟨c1, c2⟩ := hc2
  have hd2 := hd
  unfold sm at hd2
  obtain ⟨d1, d2⟩ := hd2
  have q0 : IntKind.i64.wrap (a - c) = a - c := IntWalk.i64_in _ (by omega)
  have q1 : IntKind.i64.wrap (b - d) = b - d := IntWalk.i64_in _ (by omega)
  have hX := At.new3 w (.cells #[.int .i64 a, .int .i64 b] 24) (.cells #[.int .i64 c, .int .i64 d] 24) 24 #[.int .i64 0, .int .i64 0]
  have hk : Keeps w (((w.alloc (.cells #[.int .i64 a, .int .i64 b] 24)).alloc (.cells #[.int .i64 c, .int .i64 d] 24)).alloc (.cells #[.int .i64 0, .int .i64 0] 24)) := Keeps.alloc (Keeps.alloc (Keeps.alloc (Below.refl _ _) _) _) _
  go_enter Tryd.func31, Tryd.ntmps31
  go_wp2_with (refine wpList_store_row rfl 24 _ _ rfl (w.heap.size + 1 + 1) #[.int .i64 (a - c), .int .i64 (b - d)] rfl rfl 24 #[.int .i64 0, .int .i64 0] hX (sizeG _ _) rfl (oneG _ _) ?_)
  have h3 := hX.row #[.int .i64 (a - c), .int .i64 (b - d)]
  refine bodyPost_ret (results_cell_row Tryd.results31 _ _ (w.heap.size + 1 + 1) _ _ _ _ rfl h3 Tryd.underlying24 rfl (sizeG _ _)) rfl ⟨rfl, below_row hk (by omega) _⟩

/-- The sign of a + b w, as the reference finds it. -/
def refSgn (a b : Int) : Int :=
  if 2 * a + b = 0 ∧ b = 0 then 0 else if 0 ≤ 2 * a + b ∧ 0 ≤ b then 1 else if 2 * a + b ≤ 0 ∧ b ≤ 0 then -1
  else if (0 < 2 * a + b ∧ 5 * b * b < (2 * a + b) * (2 * a + b)) ∨ (2 * a + b < 0 ∧ (2 * a + b) * (2 * a + b) < 5 * b * b) then 1 else -1
set_option maxHeartbeats 4000000 in
theorem refSign_c (a b : Int) (ha : sm 1000000000 a) (hb : sm 1000000000 b) (w : World) :
    Calls Tryd.prog 30 #[.agg #[.int .i64 a, .int .i64 b]] w fun e w' => e = .returned (.int .i64 (refSgn a b)) ∧ Keeps w w' := by
  have hp : sm 3000000000 (2 * a + b) := by unfold sm at *; omega
  have m1 := sm_mul _ _ _ _ hp hp (by decide) (by decide)
  have m2 := sm_mul _ _ _ _ hb hb (by decide) (by decide)
  unfold sm at hp ha hb m1 m2
  have q1 : IntKind.i64.wrap (2 * a) = 2 * a := IntWalk.i64_in _ (by omega)
  have q2 : IntKind.i64.wrap (2 * a + b) = 2 * a + b := IntWalk.i64_in _ (by omega)
  have q3 : IntKind.i64.wrap (5 * b) = 5 * b := IntWalk.i64_in _ (by omega)
  have q4 : IntKind.i64.wrap (5 * b * b) = 5 * b * b := IntWalk.i64_in _ (by rw [Int.mul_assoc]; omega)
  unfold refSgn
  have q5 : IntKind.i64.wrap ((2 * a + b) * (2 * a + b)) = (2 * a + b) * (2 * a + b) := IntWalk.i64_in _ (by omega)
  have hk : Keeps w (w.alloc (.cells #[.int .i64 a, .int .i64 b] 24)) := Keeps.alloc (Below.refl _ _) _
  have hpq : ∃ p, 2 * a + b = p := ⟨_, rfl⟩
  obtain ⟨p, hpq⟩ := hpq
  have hsq : ∃ s, p * p = s := ⟨_, rfl⟩
  obtain ⟨s, hsq⟩ := hsq
  have htq : ∃ t, 5 * b * b = t := ⟨_, rfl⟩
  obtain ⟨t, htq⟩ := htq
  have Hpq := Lib.hid hpq
  have Hsq := Lib.hid hsq
  have Htq := Lib.hid htq
  rw [hpq] at q5 hp ⊢
  rw [hsq] at q5 ⊢
  rw [htq] at q4 ⊢
  clear m1 m2 hp ha hb hpq hsq htq
  have hcase : (p = 0 ∧ b = 0) ∨ (p = 0 ∧ 0 < b) ∨ (0 < p ∧ 0 ≤ b) ∨ (p = 0 ∧ b < 0) ∨ (p < 0 ∧ b ≤ 0) ∨ (0 < p ∧ b < 0 ∧ t < s) ∨ (0 < p ∧ b < 0 ∧ s ≤ t) ∨ (p < 0 ∧ 0 < b ∧ s < t) ∨ (p < 0 ∧ 0 < b ∧ t ≤ s) := by omega
  rcases hcase with ⟨hA, hB⟩ | ⟨hA, hB⟩ | ⟨hA, hB⟩ | ⟨hA, hB⟩ | ⟨hA, hB⟩ | ⟨hA, hB, hC⟩ | ⟨hA, hB, hC⟩ | ⟨hA, hB, hC⟩ | ⟨hA, hB, hC⟩
  · have hr : (if p = 0 ∧ b = 0 then (0 : Int) else if 0 ≤ p ∧ 0 ≤ b then 1 else if p ≤ 0 ∧ b ≤ 0 then -1 else if (0 < p ∧ t < s) ∨ (p < 0 ∧ s < t) then 1 else -1) = 0 := by (repeat' split) <;> omega
    rw [hr]
    have HA := Lib.hid hA
    have HB := Lib.hid hB
    have Q4 := Lib.hid q4
    have Q5 := Lib.hid q5
    clear hr hA hB q4 q5
    go_enter Tryd.func30, Tryd.ntmps30
    go_wp2_with fail
    go_quiet (fail)
    rw [Hpq.out]
    have q4 := Q4.out
    have q5 := Q5.out
    rw [← Htq.out] at q4
    rw [← Hsq.out] at q5
    clear q2 Hpq Q4 Q5
    have hA := HA.out
    have hB := HB.out
    have f0 : (p == 0) = true := by simp; omega
    have f1 : (b == 0) = true := by simp; omega
    go_wp2_with fail
    go_ret
    exact ⟨rfl, below_drewN (Keeps.alloc (Below.refl _ _) _)⟩
  · have hr : (if p = 0 ∧ b = 0 then (0 : Int) else if 0 ≤ p ∧ 0 ≤ b then 1 else if p ≤ 0 ∧ b ≤ 0 then -1 else if (0 < p ∧ t < s) ∨ (p < 0 ∧ s < t) then 1 else -1) = 1 := by (repeat' split) <;> omega
    rw [hr]
    have HA := Lib.hid hA
    have HB := Lib.hid hB
    have Q4 := Lib.hid q4
    have Q5 := Lib.hid q5
    clear hr hA hB q4 q5
    go_enter Tryd.func30, Tryd.ntmps30
    go_wp2_with fail
    go_quiet (fail)
    rw [Hpq.out]
    have q4 := Q4.out
    have q5 := Q5.out
    rw [← Htq.out] at q4
    rw [← Hsq.out] at q5
    clear q2 Hpq Q4 Q5
    have hA := HA.out
    have hB := HB.out
    have f0 : (p == 0) = true := by simp; omega
    have f1 : (b == 0) = false := by simp; omega
    have f2 : decide (0 ≤ p) = true := by simp; omega
    have f3 : decide (0 ≤ b) = true := by simp; omega
    go_wp2_with fail
    go_ret
    exact ⟨rfl, below_drewN (Keeps.alloc (Below.refl _ _) _)⟩
  · have hr : (if p = 0 ∧ b = 0 then (0 : Int) else if 0 ≤ p ∧ 0 ≤ b then 1 else if p ≤ 0 ∧ b ≤ 0 then -1 else if (0 < p ∧ t < s) ∨ (p < 0 ∧ s < t) then 1 else -1) = 1 := by (repeat' split) <;> omega
    rw [hr]
    have HA := Lib.hid hA
    have HB := Lib.hid hB
    have Q4 := Lib.hid q4
    have Q5 := Lib.hid q5
    clear hr hA hB q4 q5
    go_enter Tryd.func30, Tryd.ntmps30
    go_wp2_with fail
    go_quiet (fail)
    rw [Hpq.out]
    have q4 := Q4.out
    have q5 := Q5.out
    rw [← Htq.out] at q4
    rw [← Hsq.out] at q5
    clear q2 Hpq Q4 Q5
    have hA := HA.out
    have hB := HB.out
    have f0 : (p == 0) = false := by simp; omega
    have f1 : decide (0 ≤ p) = true := by simp; omega
    have f2 : decide (0 ≤ b) = true := by simp; omega
    go_wp2_with fail
    go_ret
    exact ⟨rfl, below_drewN (Keeps.alloc (Below.refl _ _) _)⟩
  · have hr : (if p = 0 ∧ b = 0 then (0 : Int) else if 0 ≤ p ∧ 0 ≤ b then 1 else if p ≤ 0 ∧ b ≤ 0 then -1 else if (0 < p ∧ t < s) ∨ (p < 0 ∧ s < t) then 1 else -1) = -1 := by (repeat' split) <;> omega
    rw [hr]
    have HA := Lib.hid hA
    have HB := Lib.hid hB
    have Q4 := Lib.hid q4
    have Q5 := Lib.hid q5
    clear hr hA hB q4 q5
    go_enter Tryd.func30, Tryd.ntmps30
    go_wp2_with fail
    go_quiet (fail)
    rw [Hpq.out]
    have q4 := Q4.out
    have q5 := Q5.out
    rw [← Htq.out] at q4
    rw [← Hsq.out] at q5
    clear q2 Hpq Q4 Q5
    have hA := HA.out
    have hB := HB.out
    have f0 : (p == 0) = true := by simp; omega
    have f1 : (b == 0) = false := by simp; omega
    have f2 : decide (0 ≤ p) = true := by simp; omega
    have f3 : decide (0 ≤ b) = false := by simp; omega
    have f4 : decide (p ≤ 0) = true := by simp; omega
    have f5 : decide (b ≤ 0) = true := by simp; omega
    go_wp2_with fail
    go_ret
    exact ⟨rfl, below_drewN (Keeps.alloc (Below.refl _ _) _)⟩
  · have hr : (if p = 0 ∧ b = 0 then (0 : Int) else if 0 ≤ p ∧ 0 ≤ b then 1 else if p ≤ 0 ∧ b ≤ 0 then -1 else if (0 < p ∧ t < s) ∨ (p < 0 ∧ s < t) then 1 else -1) = -1 := by (repeat' split) <;> omega
    rw [hr]
    have HA := Lib.hid hA
    have HB := Lib.hid hB
    have Q4 := Lib.hid q4
    have Q5 := Lib.hid q5
    clear hr hA hB q4 q5
    go_enter Tryd.func30, Tryd.ntmps30
    go_wp2_with fail
    go_quiet (fail)
    rw [Hpq.out]
    have q4 := Q4.out
    have q5 := Q5.out
    rw [← Htq.out] at q4
    rw [← Hsq.out] at q5
    clear q2 Hpq Q4 Q5
    have hA := HA.out
    have hB := HB.out
    have f0 : (p == 0) = false := by simp; omega
    have f1 : decide (0 ≤ p) = false := by simp; omega
    have f2 : decide (p ≤ 0) = true := by simp; omega
    have f3 : decide (b ≤ 0) = true := by simp; omega
    go_wp2_with fail
    go_ret
    exact ⟨rfl, below_drewN (Keeps.alloc (Below.refl _ _) _)⟩
  · have hr : (if p = 0 ∧ b = 0 then (0 : Int) else if 0 ≤ p ∧ 0 ≤ b then 1 else if p ≤ 0 ∧ b ≤ 0 then -1 else if (0 < p ∧ t < s) ∨ (p < 0 ∧ s < t) then 1 else -1) = 1 := by (repeat' split) <;> omega
    rw [hr]
    have HA := Lib.hid hA
    have HB := Lib.hid hB
    have HC := Lib.hid hC
    have Q4 := Lib.hid q4
    have Q5 := Lib.hid q5
    clear hr hA hB q4 q5 hC
    go_enter Tryd.func30, Tryd.ntmps30
    go_wp2_with fail
    go_quiet (fail)
    rw [Hpq.out]
    have q4 := Q4.out
    have q5 := Q5.out
    rw [← Htq.out] at q4
    rw [← Hsq.out] at q5
    clear q2 Hpq Q4 Q5
    have hA := HA.out
    have hB := HB.out
    have hC := HC.out
    have f0 : (p == 0) = false := by simp; omega
    have f1 : decide (0 ≤ p) = true := by simp; omega
    have f2 : decide (0 ≤ b) = false := by simp; omega
    have f3 : decide (p ≤ 0) = false := by simp; omega
    have f4 : decide (0 < p) = true := by simp; omega
    have f5 : decide (t < s) = true := by simp; omega
    rw [← Hsq.out, ← Htq.out] at hC f5
    go_wp2_with fail
    go_ret
    exact ⟨rfl, below_drewN (Keeps.alloc (Below.refl _ _) _)⟩
  · have hr : (if p = 0 ∧ b = 0 then (0 : Int) else if 0 ≤ p ∧ 0 ≤ b then 1 else if p ≤ 0 ∧ b ≤ 0 then -1 else if (0 < p ∧ t < s) ∨ (p < 0 ∧ s < t) then 1 else -1) = -1 := by (repeat' split) <;> omega
    rw [hr]
    have HA := Lib.hid hA
    have HB := Lib.hid hB
    have HC := Lib.hid hC
    have Q4 := Lib.hid q4
    have Q5 := Lib.hid q5
    clear hr hA hB q4 q5 hC
    go_enter Tryd.func30, Tryd.ntmps30
    go_wp2_with fail
    go_quiet (fail)
    rw [Hpq.out]
    have q4 := Q4.out
    have q5 := Q5.out
    rw [← Htq.out] at q4
    rw [← Hsq.out] at q5
    clear q2 Hpq Q4 Q5
    have hA := HA.out
    have hB := HB.out
    have hC := HC.out
    have f0 : (p == 0) = false := by simp; omega
    have f1 : decide (0 ≤ p) = true := by simp; omega
    have f2 : decide (0 ≤ b) = false := by simp; omega
    have f3 : decide (p ≤ 0) = false := by simp; omega
    have f4 : decide (0 < p) = true := by simp; omega
    have f5 : decide (t < s) = false := by simp; omega
    have f6 : decide (p < 0) = false := by simp; omega
    rw [← Hsq.out, ← Htq.out] at hC f5
    go_wp2_with fail
    go_ret
    exact ⟨rfl, below_drewN (Keeps.alloc (Below.refl _ _) _)⟩
  · have hr : (if p = 0 ∧ b = 0 then (0 : Int) else if 0 ≤ p ∧ 0 ≤ b then 1 else if p ≤ 0 ∧ b ≤ 0 then -1 else if (0 < p ∧ t < s) ∨ (p < 0 ∧ s < t) then 1 else -1) = 1 := by (repeat' split) <;> omega
    rw [hr]
    have HA := Lib.hid hA
    have HB := Lib.hid hB
    have HC := Lib.hid hC
    have Q4 := Lib.hid q4
    have Q5 := Lib.hid q5
    clear hr hA hB q4 q5 hC
    go_enter Tryd.func30, Tryd.ntmps30
    go_wp2_with fail
    go_quiet (fail)
    rw [Hpq.out]
    have q4 := Q4.out
    have q5 := Q5.out
    rw [← Htq.out] at q4
    rw [← Hsq.out] at q5
    clear q2 Hpq Q4 Q5
    have hA := HA.out
    have hB := HB.out
    have hC := HC.out
    have f0 : (p == 0) = false := by simp; omega
    have f1 : decide (0 ≤ p) = false := by simp; omega
    have f2 : decide (p ≤ 0) = true := by simp; omega
    have f3 : decide (b ≤ 0) = false := by simp; omega
    have f4 : decide (0 < p) = false := by simp; omega
    have f5 : decide (p < 0) = true := by simp; omega
    have f6 : decide (s < t) = true := by simp; omega
    rw [← Hsq.out, ← Htq.out] at hC f6
    go_wp2_with fail
    go_ret
    exact ⟨rfl, below_drewN (Keeps.alloc (Below.refl _ _) _)⟩
  · have hr : (if p = 0 ∧ b = 0 then (0 : Int) else if 0 ≤ p ∧ 0 ≤ b then 1 else if p ≤ 0 ∧ b ≤ 0 then -1 else if (0 < p ∧ t < s) ∨ (p < 0 ∧ s < t) then 1 else -1) = -1 := by (repeat' split) <;> omega
    rw [hr]
    have HA := Lib.hid hA
    have HB := Lib.hid hB
    have HC := Lib.hid hC
    have Q4 := Lib.hid q4
    have Q5 := Lib.hid q5
    clear hr hA hB q4 q5 hC
    go_enter Tryd.func30, Tryd.ntmps30
    go_wp2_with fail
    go_quiet (fail)
    rw [Hpq.out]
    have q4 := Q4.out
    have q5 := Q5.out
    rw [← Htq.out] at q4
    rw [← Hsq.out] at q5
    clear q2 Hpq Q4 Q5
    have hA := HA.out
    have hB := HB.out
    have hC := HC.out
    have f0 : (p == 0) = false := by simp; omega
    have f1 : decide (0 ≤ p) = false := by simp; omega
    have f2 : decide (p ≤ 0) = true := by simp; omega
    have f3 : decide (b ≤ 0) = false := by simp; omega
    have f4 : decide (0 < p) = false := by simp; omega
    have f5 : decide (p < 0) = true := by simp; omega
    have f6 : decide (s < t) = false := by simp; omega
    rw [← Hsq.out, ← Htq.out] at hC f6
    go_wp2_with fail
    go_ret
    exact ⟨rfl, below_drewN (Keeps.alloc (Below.refl _ _) _)⟩

/-- Five times a square other than 0 is no square. -/
theorem five_square (q : Nat) : ∀ p : Int, q ≠ 0 → p * p ≠ 5 * ((q : Int) * q) := by
  induction q using Nat.strongRecOn with
  | ind q ih =>
    intro p hq h
    have five : ∀ z k : Int, z * z = 5 * k → ∃ r, z = 5 * r := by
      intro z k hz
      have h1 : (z * z) % 5 = 0 := by omega
      rw [Int.mul_emod] at h1
      have h2 : z % 5 = 0 ∨ z % 5 = 1 ∨ z % 5 = 2 ∨ z % 5 = 3 ∨ z % 5 = 4 := by omega
      rcases h2 with h2 | h2 | h2 | h2 | h2 <;> rw [h2] at h1
      · exact ⟨z / 5, by omega⟩
      all_goals exact absurd h1 (by decide)
    obtain ⟨r, hr⟩ := five p _ h
    subst hr
    have h3 : (q : Int) * q = 5 * (r * r) := by
      have : (5 * r) * (5 * r) = 5 * (5 * (r * r)) := by rw [Int.mul_assoc, Int.mul_left_comm r 5 r]
      rw [this] at h
      omega
    obtain ⟨s, hs⟩ := five _ _ h3
    have hs0 : 0 < s := by omega
    obtain ⟨m, rfl⟩ := Int.eq_ofNat_of_zero_le (Int.le_of_lt hs0)
    have h4 : r * r = 5 * ((m : Int) * m) := by
      have : (5 * (m : Int)) * (5 * m) = 5 * (5 * ((m : Int) * m)) := by rw [Int.mul_assoc, Int.mul_left_comm (m : Int) 5 m]
      rw [hs, this] at h3
      omega
    exact ih m (by omega) r (by omega) h4
theorem five_ne (p b : Int) (hb : b ≠ 0) : p * p ≠ 5 * b * b := by
  have h := five_square b.natAbs p (by omega)
  rw [Int.mul_assoc, ← Int.natAbs_mul_self' b] 
  simpa using h
theorem sq_pos (b : Int) (h : b ≠ 0) : 0 < b * b := by
  rcases Int.lt_or_lt_of_ne h with h | h
  · exact Int.mul_pos_of_neg_of_neg h h
  · exact Int.mul_pos h h
theorem refSgn_eq (a b : Int) : refSgn a b = sgn a b := by
  unfold refSgn sgn ssq Lib.compareInt
  generalize 2 * a + b = p
  rw [Int.neg_mul p p, Int.neg_mul b b, Int.mul_assoc 5 b b]
  have f5 := five_ne p b
  rw [Int.mul_assoc 5 b b] at f5
  have fp := sq_pos p
  have fb := sq_pos b
  have zp : p = 0 → p * p = 0 := by rintro rfl; rfl
  have zb : b = 0 → b * b = 0 := by rintro rfl; rfl
  generalize p * p = s at *
  generalize b * b = t at *
  (repeat' split) <;> omega

def cmpN (x y : Int × Int) : Int := if numB x.1 x.2 = true ∧ numB y.1 y.2 = true then sgn (minusG x y).1 (minusG x y).2 else 0
def cmpE (x y : Int × Int) : Int := if numB x.1 x.2 = true ∧ numB y.1 y.2 = true then 0 else 2
theorem sm2_minus {B : Int} {x y : Int × Int} (h : sm2 B x) (h' : sm2 B y) : sm2 (2 * B) (minusG x y) := by unfold sm2 sm minusG at *; simp only; omega
theorem refNumber_v (x : Int × Int) (w : World) : Calls Tryd.prog 14 #[.agg (gv x)] w fun e w' => e = .returned (.bool (numB x.1 x.2)) ∧ Keeps w w' :=
  (refNumber_c x.1 x.2 w).mono fun e w' ⟨he, hw⟩ => ⟨he, by subst hw; exact Keeps.alloc (Below.refl _ _) _⟩
theorem refMinus_v (x y : Int × Int) (h : sm2 1000000000000 x) (h' : sm2 1000000000000 y) (w : World) : Calls Tryd.prog 31 #[.agg (gv x), .agg (gv y)] w fun e w' => e = .returned (.agg (gv (minusG x y))) ∧ Keeps w w' := refMinus_c x.1 x.2 y.1 y.2 h.1 h.2 h'.1 h'.2 w
theorem refSign_v (x : Int × Int) (h : sm2 1000000000 x) (w : World) : Calls Tryd.prog 30 #[.agg (gv x)] w fun e w' => e = .returned (.int .i64 (sgn x.1 x.2)) ∧ Keeps w w' := by
  rw [← refSgn_eq]; exact refSign_c x.1 x.2 h.1 h.2 w

end Go.Proofs.YtfekggmdhmkemaaDoor
