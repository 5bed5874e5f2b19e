/- The law of Rooted. -/
import Derived.Test.YteffkcnlipdgaaaDoorWc
import Derived.Test.YteffkcnlipdgaaaDoorMb
namespace Go.Proofs.YteffkcnlipdgaaaDoor
open Go.RowKit
set_option linter.unusedVariables false
set_option linter.unusedSimpArgs false

set_option maxHeartbeats 8000000 in
set_option maxRecDepth 20000 in
theorem law_rooted (s : ByteArray) (w : World) (hs : s.size ≤ maxLen) : Calls Tryd.prog 5 #[.string s] w fun e w' => e = .returned (.bool true) ∧ Keeps w w' := by
  have cA := fun W => awake_c W
  go_enter Tryd.func5, Tryd.ntmps5
  go_upto_region 2 with (go_at_call 9; refine (tame_c s hs _).mono ?_; rintro e w1 ⟨⟨p, t, hp1, hp2, hp3, rfl⟩, h1⟩; obtain ⟨x, y, z⟩ := t; simp only)
  have hmem := fol_mem _ _ _ start_mem hp3
  have ht := List.all_eq_true.1 trisT _ hmem
  have hf := List.all_eq_true.1 rootsT _ hmem
  unfold okTri at ht
  unfold okRoot at hf
  simp only [Bool.and_eq_true, Bool.or_eq_true, decide_eq_true_eq] at ht hf
  have htb := ht.1
  have ho := ((trB_iff _ _ _).1 htb).1
  have hz5 := ht.2.2
  have cF := fun W => Root_yes x y z htb (by omega) W
  obtain ⟨u1, u2⟩ := rootN_bd x y z ho
  generalize rootN x y z = u at *
  have hX := At.new w1 22 #[.int .i64 x, .int .i64 y, .int .i64 z]
  have k1 : Keeps w (w1.alloc (.cells #[.int .i64 x, .int .i64 y, .int .i64 z] 22)) := Keeps.alloc h1 _
  generalize w1.alloc (.cells #[.int .i64 x, .int .i64 y, .int .i64 z] 22) = Z at *
  have n1 := (row_six hX).1
  have n2 := (row_six hX).2.1
  have n3 := (row_six hX).2.2.1
  obtain ⟨o1, o2, o3, o4⟩ := ho
  obtain ⟨f1, f2⟩ := hf
  have m1 := bd_mul (x := u) (y := u) ⟨u1, by omega⟩ ⟨u1, by omega⟩
  have m2 := bd_mul (x := x) (y := u) ⟨by omega, by omega⟩ ⟨u1, by omega⟩
  have t1 : (u * u + 1).tmod z = (u * u + 1) % z := Int.tmod_eq_emod_of_nonneg (by omega)
  have t2 : (x * u).tmod z = (x * u) % z := Int.tmod_eq_emod_of_nonneg (by omega)
  have t3 : y.tmod z = y % z := Int.tmod_eq_emod_of_nonneg (by omega)
  have b1 : 0 ≤ (x * u) % z ∧ (x * u) % z < z := ⟨Int.emod_nonneg _ (by omega), Int.emod_lt_of_pos _ (by omega)⟩
  have b2 : 0 ≤ y % z ∧ y % z < z := ⟨Int.emod_nonneg _ (by omega), Int.emod_lt_of_pos _ (by omega)⟩
  have t4 : ((x * u) % z + y).tmod z = ((x * u) % z + y) % z := Int.tmod_eq_emod_of_nonneg (by omega)
  have b3 : 0 ≤ ((x * u) % z + y) % z ∧ ((x * u) % z + y) % z < z := ⟨Int.emod_nonneg _ (by omega), Int.emod_lt_of_pos _ (by omega)⟩
  have hz0 : z ≠ 0 := by omega
  have q0 : IntKind.i64.wrap (u * u) = u * u := IntWalk.i64_in _ (by omega)
  have q1 : IntKind.i64.wrap (u * u + 1) = u * u + 1 := IntWalk.i64_in _ (by omega)
  have q2 : IntKind.i64.wrap (x * u) = x * u := IntWalk.i64_in _ (by omega)
  have q3 : IntKind.i64.wrap (2 * u) = 2 * u := IntWalk.i64_in _ (by omega)
  have q4 : IntKind.i64.wrap ((x * u) % z) = (x * u) % z := IntWalk.i64_in _ (by omega)
  have q5 : IntKind.i64.wrap (y % z) = y % z := IntWalk.i64_in _ (by omega)
  have q6 : IntKind.i64.wrap ((x * u) % z + y) = (x * u) % z + y := IntWalk.i64_in _ (by omega)
  have q7 : IntKind.i64.wrap (((x * u) % z + y) % z) = ((x * u) % z + y) % z := IntWalk.i64_in _ (by omega)
  have g1 : decide (u < 0) = false := by simp; omega
  have g2 : decide (z < 2 * u) = false := by simp; omega
  have g3 : ((u * u + 1) % z == 0) = true := by simpa using f1
  have g4 : ((u * u + 1) % z != 0) = false := by simpa using f1
  have hor : (((x * u) % z == y % z) || (((x * u) % z + y) % z == 0)) = true := by simpa using f2
  clear f1 f2 m1 m2 b1 b2 b3 u1 u2 o1 o2 o3 o4 hz5 ht htb hmem hp1 hp2 hp3
  generalize hA1 : (u * u + 1) % z = A1 at *
  generalize hB1 : (x * u) % z = B1 at *
  generalize hC1 : y % z = C1 at *
  generalize hD1 : (B1 + y) % z = D1 at *
  cases hE : (B1 == C1)
  · rw [hE, Bool.false_or] at hor
    go_wp2_with (first
      | (go_at_call 17; refine (cF _).mono ?_; rintro e w2 ⟨rfl, h2⟩; have k2 := Keeps.next k1 h2; have hX2 := hX.later h2; have p1 := (row_six hX2).1; have p2 := (row_six hX2).2.1; have p3 := (row_six hX2).2.2.1)
      | (go_at_call 12; refine (cA _).mono ?_; rintro e w3 ⟨rfl, h3⟩; have k3 := Keeps.next k2 h3))
    go_ret
    exact ⟨rfl, k3⟩
  · clear hor
    go_wp2_with (first
      | (go_at_call 17; refine (cF _).mono ?_; rintro e w2 ⟨rfl, h2⟩; have k2 := Keeps.next k1 h2; have hX2 := hX.later h2; have p1 := (row_six hX2).1; have p2 := (row_six hX2).2.1; have p3 := (row_six hX2).2.2.1)
      | (go_at_call 12; refine (cA _).mono ?_; rintro e w3 ⟨rfl, h3⟩; have k3 := Keeps.next k2 h3))
    go_ret
    exact ⟨rfl, k3⟩
end Go.Proofs.YteffkcnlipdgaaaDoor
