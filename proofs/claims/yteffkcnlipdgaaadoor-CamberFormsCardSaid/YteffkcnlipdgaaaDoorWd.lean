/- The law of Forms. -/
import Derived.Test.YteffkcnlipdgaaaDoorWc
import Derived.Test.YteffkcnlipdgaaaDoorMb
namespace Go.Proofs.YteffkcnlipdgaaaDoor
open Go.RowKit
set_option linter.unusedVariables false
set_option linter.unusedSimpArgs false

set_option maxHeartbeats 8000000 in
set_option maxRecDepth 20000 in
theorem law_forms (s : ByteArray) (w : World) (hs : s.size ≤ maxLen) : Calls Tryd.prog 6 #[.string s] w fun e w' => e = .returned (.bool true) ∧ Keeps w w' := by
  have cA := fun W => awake_c W
  go_enter Tryd.func6, Tryd.ntmps6
  go_upto_region 2 with (go_at_call 9; refine (tame_c s hs _).mono ?_; rintro e w1 ⟨⟨p, t, hp1, hp2, hp3, rfl⟩, h1⟩; obtain ⟨x, y, z⟩ := t; simp only)
  have hmem := fol_mem _ _ _ start_mem hp3
  have ht := List.all_eq_true.1 trisT _ hmem
  have hf := List.all_eq_true.1 formsT _ hmem
  unfold okTri at ht
  unfold okForm at hf
  simp only [Bool.and_eq_true, Bool.or_eq_true, decide_eq_true_eq] at ht hf
  have htb := ht.1
  have hzb := ((trB_iff _ _ _).1 htb).1.2.2.2
  have hz5 := ht.2.2
  have cF := fun W => Form_yes x y z htb (by omega) W
  have hf0 : formT x y z = (z, (formT x y z).2.1, (formT x y z).2.2) := rfl
  generalize (formT x y z).2.1 = f1 at *
  generalize (formT x y z).2.2 = f2 at *
  rw [hf0] at cF
  simp only [ev] at cF
  have hX := At.new w1 22 #[.int .i64 x, .int .i64 y, .int .i64 z]
  have k1 : Keeps w (w1.alloc (.cells #[.int .i64 x, .int .i64 y, .int .i64 z] 22)) := Keeps.alloc h1 _
  generalize w1.alloc (.cells #[.int .i64 x, .int .i64 y, .int .i64 z] 22) = Z at *
  have n1 := (row_six hX).1
  have n2 := (row_six hX).2.1
  have n3 := (row_six hX).2.2.1
  clear hf0 hmem hp1 hp2 hp3 ht htb
  by_cases hbig : 100000000 < z
  · have hd : decide (100000000 < z) = true := by simpa using hbig
    clear hf hbig hz5 hzb
    go_wp2_with (first
      | (go_at_call 18; refine (cF _).mono ?_; rintro e w2 ⟨rfl, h2⟩; have k2 : Keeps w (w2.alloc (.cells #[.int .i64 z, .int .i64 f1, .int .i64 f2] 22)) := Keeps.alloc (Keeps.next k1 h2) _; have hX2 := (hX.later h2).alloc (.cells #[.int .i64 z, .int .i64 f1, .int .i64 f2] 22); have hF2 := At.new w2 22 #[.int .i64 z, .int .i64 f1, .int .i64 f2]; have p1 := (row_six hX2).1; have p2 := (row_six hX2).2.1; have p3 := (row_six hX2).2.2.1; have r1 := (row_six hF2).1; have r2 := (row_six hF2).2.1; have r3 := (row_six hF2).2.2.1)
      | (go_at_call 12; refine (cA _).mono ?_; rintro e w3 ⟨rfl, h3⟩; have k3 := Keeps.next k2 h3))
    go_ret
    exact ⟨rfl, k3⟩
  · obtain ⟨⟨a1, a2⟩, ⟨a3, a4⟩, a5⟩ := hf.resolve_left hbig
    have hd : decide (100000000 < z) = false := by simpa using hbig
    have hz9 : bd z := ⟨by omega, hzb⟩
    have m1 : 0 ≤ z * z ∧ z * z ≤ 10000000000000000 := ⟨Int.mul_nonneg (by omega) (by omega), Int.le_trans (Int.mul_le_mul (show z ≤ 100000000 by omega) (show z ≤ 100000000 by omega) (by omega) (by decide)) (by decide)⟩
    have m2 : 0 ≤ f1 * f1 ∧ f1 * f1 ≤ 90000000000000000 := ⟨Int.mul_nonneg a1 a1, Int.le_trans (Int.mul_le_mul (show f1 ≤ 300000000 by omega) (show f1 ≤ 300000000 by omega) a1 (by decide)) (by decide)⟩
    have e9 : 9 * z * z = 9 * (z * z) := Int.mul_assoc ..
    have g1 : decide (f1 < 0) = false := by simp; omega
    have g2 : decide (3 * z < f1) = false := by simp; omega
    have g3 : decide (0 < f2) = false := by simp; omega
    have g4 : decide (f2 < -3 * z) = false := by simp; omega
    have g5 : decide (f2 < -(3 * z)) = false := by simp; omega
    have q0 : IntKind.i64.wrap (f1 * f1) = f1 * f1 := IntWalk.i64_in _ (by omega)
    have q1 : IntKind.i64.wrap (4 * z) = 4 * z := IntWalk.i64_in _ (by omega)
    have q2 : IntKind.i64.wrap (4 * z * f2) = 4 * z * f2 := IntWalk.i64_in _ (by omega)
    have q3 : IntKind.i64.wrap (f1 * f1 - 4 * z * f2) = f1 * f1 - 4 * z * f2 := IntWalk.i64_in _ (by omega)
    have q4 : IntKind.i64.wrap (9 * z) = 9 * z := IntWalk.i64_in _ (by omega)
    have q5 : IntKind.i64.wrap (9 * z * z) = 9 * z * z := IntWalk.i64_in _ (by omega)
    have q6 : IntKind.i64.wrap (9 * z * z - 4) = 9 * z * z - 4 := IntWalk.i64_in _ (by omega)
    have q7 : IntKind.i64.wrap (3 * z) = 3 * z := IntWalk.i64_in _ (by omega)
    have q8 : IntKind.i64.wrap (-3 * z) = -3 * z := IntWalk.i64_in _ (by omega)
    have q9 : IntKind.i64.wrap (-(3 * z)) = -(3 * z) := IntWalk.i64_in _ (by omega)
    have heq : (f1 * f1 - 4 * z * f2 == 9 * z * z - 4) = true := by rw [beq_iff_eq]; exact a5
    clear a1 a2 a3 a4 a5 m1 m2 e9 hf hbig hz5 hzb hz9
    go_wp2_with (first
      | (go_at_call 18; refine (cF _).mono ?_; rintro e w2 ⟨rfl, h2⟩; have k2 : Keeps w (w2.alloc (.cells #[.int .i64 z, .int .i64 f1, .int .i64 f2] 22)) := Keeps.alloc (Keeps.next k1 h2) _; have hX2 := (hX.later h2).alloc (.cells #[.int .i64 z, .int .i64 f1, .int .i64 f2] 22); have hF2 := At.new w2 22 #[.int .i64 z, .int .i64 f1, .int .i64 f2]; have p1 := (row_six hX2).1; have p2 := (row_six hX2).2.1; have p3 := (row_six hX2).2.2.1; have r1 := (row_six hF2).1; have r2 := (row_six hF2).2.1; have r3 := (row_six hF2).2.2.1)
      | (go_at_call 12; refine (cA _).mono ?_; rintro e w3 ⟨rfl, h3⟩; have k3 := Keeps.next k2 h3))
    go_ret
    exact ⟨rfl, k3⟩
end Go.Proofs.YteffkcnlipdgaaaDoor
