/- The reference's Root, Form. -/
import Derived.Test.YtnlogppdnfhelabDoorWg
namespace Go.Proofs.YtnlogppdnfhelabDoor
open Go.RowKit
set_option linter.unusedVariables false
set_option linter.unusedSimpArgs false

def uR (x y z : Int) : Int := (y.tmod z * rinv x z).tmod z
theorem sum_mod (A z : Int) (hz : 0 < z) : (-A) % z + A % z = 0 ∨ (-A) % z + A % z = z := by
  have h1 := Int.emod_add_mul_ediv (-A) z
  have h2 := Int.emod_add_mul_ediv A z
  have b1 := Int.emod_nonneg (-A) (show z ≠ 0 by omega)
  have b2 := Int.emod_lt_of_pos (-A) hz
  have b3 := Int.emod_nonneg A (show z ≠ 0 by omega)
  have b4 := Int.emod_lt_of_pos A hz
  generalize (-A) % z = s at *
  generalize A % z = r at *
  have e : s + r = z * (-((-A) / z) - A / z) := by grind
  generalize -((-A) / z) - A / z = t at *
  rcases Int.lt_or_le t 0 with h | h
  · have : z * t ≤ z * -1 := Int.mul_le_mul_of_nonneg_left (by omega) (by omega)
    omega
  · rcases Int.lt_or_le 1 t with h2 | h2
    · have : z * 2 ≤ z * t := Int.mul_le_mul_of_nonneg_left (by omega) (by omega)
      omega
    · have : t = 0 ∨ t = 1 := by omega
      rcases this with rfl | rfl
      · left; omega
      · right; omega
theorem uR_eq (x y z : Int) (ho : ord x y z) : min (uR x y z) (z - uR x y z) = rootN x y z := by
  obtain ⟨v1, v2⟩ := inv_bd x z (by unfold ord at ho; omega) (by unfold ord at ho; omega)
  obtain ⟨o1, o2, o3, o4⟩ := ho
  unfold uR rootN rinv
  have hpm := rv_pm x z
  generalize inv x z = V at *
  have hz : 0 < z := by omega
  have hz0 : z ≠ 0 := by omega
  have hvy : 0 ≤ V * y := Int.mul_nonneg v1 (by omega)
  rw [Int.tmod_eq_emod_of_nonneg hvy, Int.tmod_eq_emod_of_nonneg (show 0 ≤ y by omega)]
  have b1 := Int.emod_nonneg V hz0
  have b2 := Int.emod_lt_of_pos V hz
  have b3 := Int.emod_nonneg y hz0
  rcases hpm with h | h
  · rw [h, Int.tmod_eq_emod_of_nonneg v1, Int.tmod_eq_emod_of_nonneg (show 0 ≤ V % z + z by omega), Int.add_emod_right, Int.emod_emod]
    rw [Int.tmod_eq_emod_of_nonneg (Int.mul_nonneg b3 b1), ← Int.mul_emod, Int.mul_comm y V]
  · rw [h, Int.neg_tmod, Int.tmod_eq_emod_of_nonneg v1]
    have b4 : 0 ≤ -(V % z) + z := by omega
    rw [Int.tmod_eq_emod_of_nonneg b4]
    have b5 := Int.emod_nonneg (-(V % z) + z) hz0
    rw [Int.tmod_eq_emod_of_nonneg (Int.mul_nonneg b3 b5), ← Int.mul_emod]
    have e1 : y * (-(V % z) + z) = -(y * (V % z)) + y * z := by grind
    rw [e1, Int.add_mul_emod_self_right]
    have hs := sum_mod (y * (V % z)) z hz
    have e2 : y * (V % z) % z = V * y % z := by rw [Int.mul_emod, Int.emod_emod, ← Int.mul_emod, Int.mul_comm]
    rw [e2] at hs
    have b6 := Int.emod_nonneg (-(y * (V % z))) hz0
    have b7 := Int.emod_nonneg (V * y) hz0
    omega
set_option maxHeartbeats 4000000 in
set_option maxRecDepth 20000 in
theorem refRoot_c (x y z : Int) (ho : ord x y z) (w : World) :
    Calls Tryd.prog 16 #[.agg #[.int .i64 x, .int .i64 y, .int .i64 z]] w fun e w' => e = .returned (.int .i64 (rootN x y z)) ∧ Keeps w w' := by
  have hE := uR_eq x y z ho
  rw [← hE]
  have ho2 := ho
  obtain ⟨o1, o2, o3, o4⟩ := ho
  have cI := fun W => refInverse_c x z o1 o4 (by omega) W
  have t1 := tmod_bd y z (by omega)
  have t0 := Int.tmod_nonneg z (show 0 ≤ y by omega)
  have t2 := tmod_bd ((rv x z).tmod z + z) z (by omega)
  have t3 : 0 ≤ rinv x z := Int.tmod_nonneg z (by have := tmod_bd (rv x z) z (by omega); omega)
  have t4 : rinv x z < z := t2.2
  have hm := bd_mul (x := y.tmod z) (y := rinv x z) ⟨t0, by omega⟩ ⟨t3, by omega⟩
  have hu := tmod_bd (y.tmod z * rinv x z) z (by omega)
  have hu0 : 0 ≤ uR x y z := Int.tmod_nonneg z hm.1
  have hX := At.new w 35 #[.int .i64 x, .int .i64 y, .int .i64 z]
  have hk : Keeps w (w.alloc (.cells #[.int .i64 x, .int .i64 y, .int .i64 z] 35)) := Keeps.alloc (Below.refl _ _) _
  have hz0 : z ≠ 0 := by omega
  have hUd : (y.tmod z * rinv x z).tmod z = uR x y z := rfl
  rw [hUd] at hu
  generalize uR x y z = U at *
  generalize rinv x z = W at *
  generalize hYt : y.tmod z = Yt at *
  generalize hPr : Yt * W = Pr at *
  have q1 : IntKind.i64.wrap Yt = Yt := IntWalk.i64_in _ (by omega)
  have q2 : IntKind.i64.wrap Pr = Pr := IntWalk.i64_in _ (by omega)
  have q3 : IntKind.i64.wrap U = U := IntWalk.i64_in _ (by omega)
  have q4 : IntKind.i64.wrap (z - U) = z - U := IntWalk.i64_in _ (by omega)
  clear hE ho2 t0 t1 t2 t3 t4 hm hu hu0 o1 o2 o3 o4
  go_enter Tryd.func16, Tryd.ntmps16
  go_wp2_with fail
  generalize w.alloc (.cells #[.int .i64 x, .int .i64 y, .int .i64 z] 35) = Z at *
  refine region_any_inv (G := Unit) (f := ?f1) (fun _ => [.pointer (some ⟨w.heap.size, 1, none⟩), .int .i64 y, .pointer (some ⟨w.heap.size, 2, none⟩), .int .i64 z, .int .i64 Yt, .pointer (some ⟨w.heap.size, 0, none⟩), .int .i64 x, .pointer (some ⟨w.heap.size, 2, none⟩), .int .i64 z, .int .i64 W, .int .i64 Pr, .pointer (some ⟨w.heap.size, 2, none⟩), .int .i64 z, .int .i64 U, .int .i64 U])
    (fun _ _ w' => Keeps Z w') () (fun _ => ?hf1) (by kernel_rfl) (by kernel_rfl) (below_drewN (n := 1) (Below.refl _ _)) ?steps1 ?fin1
  case hf1 =>
    simp only [fill, List.toList_toArray, List.zip_cons_cons, List.zip_nil_left, List.zip_nil_right, List.foldl_cons, List.foldl_nil, Act.put, List.setIfInBounds_toArray, List.set_cons_succ, List.set_cons_zero]
    exact rfl
  case steps1 =>
    refine StepsU.cons rfl (fun g L w' hL hr hc hF => ?_) ?_
    · have k3 : Keeps Z w' := hF
      clear hF
      refine StepU.go rfl (fun K hK => ?_)
      go_simp
      exact hK () _ k3
    refine StepsU.cons rfl (fun g L w' hL hr hc hF => ?_) ?_
    · have k3 : Keeps Z w' := hF
      clear hF
      have p1 := (row_six (hX.later k3)).1
      have p2 := (row_six (hX.later k3)).2.1
      have p3 := (row_six (hX.later k3)).2.2.1
      refine StepU.go rfl (fun K hK => ?_)
      go_simp
      exact hK () _ k3
    refine StepsU.cons rfl (fun g L w' hL hr hc hF => ?_) ?_
    · have k3 : Keeps Z w' := hF
      clear hF
      refine StepU.go rfl (fun K hK => ?_)
      go_simp
      exact hK () _ k3
    refine StepsU.cons rfl (fun g L w' hL hr hc hF => ?_) ?_
    · have k3 : Keeps Z w' := hF
      clear hF
      have p1 := (row_six (hX.later k3)).1
      have p2 := (row_six (hX.later k3)).2.1
      have p3 := (row_six (hX.later k3)).2.2.1
      refine StepU.go rfl (fun K hK => ?_)
      go_simp
      exact hK () _ k3
    refine StepsU.cons rfl (fun g L w' hL hr hc hF => ?_) ?_
    · have k3 : Keeps Z w' := hF
      clear hF
      refine StepU.go rfl (fun K hK => ?_)
      go_simp
      exact hK () _ k3
    refine StepsU.cons rfl (fun g L w' hL hr hc hF => ?_) ?_
    · have k3 : Keeps Z w' := hF
      clear hF
      refine StepU.go rfl (fun K hK => ?_)
      go_simp
      exact hK () _ k3
    refine StepsU.cons rfl (fun g L w' hL hr hc hF => ?_) ?_
    · have k3 : Keeps Z w' := hF
      clear hF
      have p1 := (row_six (hX.later k3)).1
      have p2 := (row_six (hX.later k3)).2.1
      have p3 := (row_six (hX.later k3)).2.2.1
      refine StepU.go rfl (fun K hK => ?_)
      go_simp
      exact hK () _ k3
    refine StepsU.cons rfl (fun g L w' hL hr hc hF => ?_) ?_
    · have k3 : Keeps Z w' := hF
      clear hF
      refine StepU.go rfl (fun K hK => ?_)
      go_simp
      exact hK () _ k3
    refine StepsU.cons rfl (fun g L w' hL hr hc hF => ?_) ?_
    · have k3 : Keeps Z w' := hF
      clear hF
      have p1 := (row_six (hX.later k3)).1
      have p2 := (row_six (hX.later k3)).2.1
      have p3 := (row_six (hX.later k3)).2.2.1
      refine StepU.go rfl (fun K hK => ?_)
      go_simp
      exact hK () _ k3
    refine StepsU.cons rfl (fun g L w' hL hr hc hF => ?_) ?_
    · have k3 : Keeps Z w' := hF
      clear hF
      have call9 := cI w'
      have C9 := Lib.hid call9
      clear call9
      refine StepU.go rfl (fun K hK => ?_)
      go_simp
      refine C9.out.mono ?_
      rintro e w2 ⟨rfl, b3⟩
      exact hK () _ (Keeps.next k3 b3)
    refine StepsU.cons rfl (fun g L w' hL hr hc hF => ?_) ?_
    · have k3 : Keeps Z w' := hF
      clear hF
      refine StepU.go rfl (fun K hK => ?_)
      go_simp
      exact hK () _ k3
    refine StepsU.cons rfl (fun g L w' hL hr hc hF => ?_) ?_
    · have k3 : Keeps Z w' := hF
      clear hF
      refine StepU.go rfl (fun K hK => ?_)
      go_simp
      exact hK () _ k3
    refine StepsU.cons rfl (fun g L w' hL hr hc hF => ?_) ?_
    · have k3 : Keeps Z w' := hF
      clear hF
      have p1 := (row_six (hX.later k3)).1
      have p2 := (row_six (hX.later k3)).2.1
      have p3 := (row_six (hX.later k3)).2.2.1
      refine StepU.go rfl (fun K hK => ?_)
      go_simp
      exact hK () _ k3
    refine StepsU.cons rfl (fun g L w' hL hr hc hF => ?_) ?_
    · have k3 : Keeps Z w' := hF
      clear hF
      refine StepU.go rfl (fun K hK => ?_)
      go_simp
      exact hK () _ k3
    refine StepsU.cons rfl (fun g L w' hL hr hc hF => ?_) ?_
    · have k3 : Keeps Z w' := hF
      clear hF
      refine StepU.go rfl (fun K hK => ?_)
      go_simp
      exact hK () _ k3
    exact StepsU.nil (by simp)
  case fin1 =>
  intro g L w5 hall k5
  clear hall
  have p1 := (row_six (hX.later k5)).1
  have p2 := (row_six (hX.later k5)).2.1
  have p3 := (row_six (hX.later k5)).2.2.1
  go_wp2_with fail
  go_ret
  exact ⟨rfl, Keeps.next hk k5⟩
set_option maxHeartbeats 4000000 in
set_option maxRecDepth 20000 in
theorem refForm_c (x y z : Int) (ho : ord x y z) (w : World) :
    Calls Tryd.prog 17 #[.agg #[.int .i64 x, .int .i64 y, .int .i64 z]] w fun e w' => e = .returned (.agg (ev (formT x y z))) ∧ Keeps w w' := by
  have hX := At.new2 w (.cells #[.int .i64 x, .int .i64 y, .int .i64 z] 35) 35 #[.int .i64 0, .int .i64 0, .int .i64 0]
  have hR : At ((w.alloc (.cells #[.int .i64 x, .int .i64 y, .int .i64 z] 35)).alloc (.cells #[.int .i64 0, .int .i64 0, .int .i64 0] 35)) w.heap.size 35 #[.int .i64 x, .int .i64 y, .int .i64 z] := (At.new w _ _).alloc _
  have hk : Keeps w ((w.alloc (.cells #[.int .i64 x, .int .i64 y, .int .i64 z] 35)).alloc (.cells #[.int .i64 0, .int .i64 0, .int .i64 0] 35)) := Keeps.alloc (Keeps.alloc (Below.refl _ _) _) _
  have cR := fun W => refRoot_c x y z ho W
  obtain ⟨u1, u2⟩ := rootN_bd x y z ho
  obtain ⟨o1, o2, o3, o4⟩ := ho
  unfold formT
  generalize rootN x y z = u at *
  obtain ⟨m1, m2⟩ := bd_mul (x := u) (y := u) (by unfold bd; omega) (by unfold bd; omega)
  have hq : (u * u + 1).tdiv z ≤ 1000000000000000001 ∧ 0 ≤ (u * u + 1).tdiv z := by
    refine ⟨Int.le_trans (Int.tdiv_le_self _ (by omega)) (by omega), Int.tdiv_nonneg (by omega) (by omega)⟩
  have q1 : IntKind.i64.wrap (u * u) = u * u := IntWalk.i64_in _ (by omega)
  have q2 : IntKind.i64.wrap (u * u + 1) = u * u + 1 := IntWalk.i64_in _ (by omega)
  have q3 : IntKind.i64.wrap ((u * u + 1).tdiv z) = (u * u + 1).tdiv z := IntWalk.i64_in _ (by omega)
  have q4 : IntKind.i64.wrap ((u * u + 1).tdiv z - 3 * u) = (u * u + 1).tdiv z - 3 * u := IntWalk.i64_in _ (by omega)
  have q5 : IntKind.i64.wrap (3 * z) = 3 * z := IntWalk.i64_in _ (by omega)
  have q6 : IntKind.i64.wrap (2 * u) = 2 * u := IntWalk.i64_in _ (by omega)
  have q7 : IntKind.i64.wrap (3 * u) = 3 * u := IntWalk.i64_in _ (by omega)
  have q8 : IntKind.i64.wrap (3 * z - 2 * u) = 3 * z - 2 * u := IntWalk.i64_in _ (by omega)
  have hz0 : z ≠ 0 := by omega
  clear m1 m2 hq u1 u2 o1 o2 o3 o4
  go_enter Tryd.func17, Tryd.ntmps17
  go_wp2_with fail
  generalize (w.alloc (.cells #[.int .i64 x, .int .i64 y, .int .i64 z] 35)).alloc (.cells #[.int .i64 0, .int .i64 0, .int .i64 0] 35) = Z at *
  refine region_any_inv (G := Unit) (f := ?f2) (fun _ => [.agg #[.int .i64 x, .int .i64 y, .int .i64 z], .int .i64 u, .pointer (some ⟨w.heap.size, 2, none⟩), .int .i64 z, .int .i64 u, .int .i64 z])
    (fun _ _ w' => Keeps Z w') () (fun _ => ?hf2) (by kernel_rfl) (by kernel_rfl) (below_drewN (n := 1) (Below.refl _ _)) ?steps2 ?fin2
  case hf2 =>
    simp only [fill, List.toList_toArray, List.zip_cons_cons, List.zip_nil_left, List.zip_nil_right, List.foldl_cons, List.foldl_nil, Act.put, List.setIfInBounds_toArray, List.set_cons_succ, List.set_cons_zero]
    exact rfl
  case steps2 =>
    refine StepsU.cons rfl (fun g L w' hL hr hc hF => ?_) ?_
    · have k3 : Keeps Z w' := hF
      clear hF
      have p1 := (row_six (hR.later k3)).1
      have p2 := (row_six (hR.later k3)).2.1
      have p3 := (row_six (hR.later k3)).2.2.1
      refine StepU.go rfl (fun K hK => ?_)
      go_simp
      exact hK () _ k3
    refine StepsU.cons rfl (fun g L w' hL hr hc hF => ?_) ?_
    · have k3 : Keeps Z w' := hF
      clear hF
      have call9 := cR w'
      have C9 := Lib.hid call9
      clear call9
      refine StepU.go rfl (fun K hK => ?_)
      go_simp
      refine C9.out.mono ?_
      rintro e w2 ⟨rfl, b3⟩
      exact hK () _ (Keeps.next k3 b3)
    refine StepsU.cons rfl (fun g L w' hL hr hc hF => ?_) ?_
    · have k3 : Keeps Z w' := hF
      clear hF
      refine StepU.go rfl (fun K hK => ?_)
      go_simp
      exact hK () _ k3
    refine StepsU.cons rfl (fun g L w' hL hr hc hF => ?_) ?_
    · have k3 : Keeps Z w' := hF
      clear hF
      have p1 := (row_six (hR.later k3)).1
      have p2 := (row_six (hR.later k3)).2.1
      have p3 := (row_six (hR.later k3)).2.2.1
      refine StepU.go rfl (fun K hK => ?_)
      go_simp
      exact hK () _ k3
    refine StepsU.cons rfl (fun g L w' hL hr hc hF => ?_) ?_
    · have k3 : Keeps Z w' := hF
      clear hF
      refine StepU.go rfl (fun K hK => ?_)
      go_simp
      exact hK () _ k3
    refine StepsU.cons rfl (fun g L w' hL hr hc hF => ?_) ?_
    · have k3 : Keeps Z w' := hF
      clear hF
      refine StepU.go rfl (fun K hK => ?_)
      go_simp
      exact hK () _ k3
    exact StepsU.nil (by simp)
  case fin2 =>
  intro g L w5 hall k5
  clear hall
  have hX1 := hX.later k5
  go_wp2_with (refine wpList_store_row rfl 35 _ _ rfl (w.heap.size + 1) #[.int .i64 z, .int .i64 (3 * z - 2 * u), .int .i64 ((u * u + 1).tdiv z - 3 * u)] rfl rfl 35 #[.int .i64 0, .int .i64 0, .int .i64 0] hX1 (size3 _ _ _) rfl (oneT _ _ _) ?_)
  have h3 := hX1.row #[.int .i64 z, .int .i64 (3 * z - 2 * u), .int .i64 ((u * u + 1).tdiv z - 3 * u)]
  refine bodyPost_ret (results_cell_row Tryd.results17 _ _ (w.heap.size + 1) _ _ _ _ rfl h3 Tryd.underlying35 rfl (size3 _ _ _)) rfl ⟨rfl, below_row (Keeps.next hk k5) (by omega) _⟩
end Go.Proofs.YtnlogppdnfhelabDoor
