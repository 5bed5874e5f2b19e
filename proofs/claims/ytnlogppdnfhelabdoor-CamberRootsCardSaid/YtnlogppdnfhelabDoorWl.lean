/- The law of Roots. -/
import Derived.Test.YtnlogppdnfhelabDoorWk
namespace Go.Proofs.YtnlogppdnfhelabDoor
open Go.RowKit
set_option linter.unusedVariables false
set_option linter.unusedSimpArgs false

theorem eqv_self (a b c : Int) (w : World) : (Op.equalIn 10000 35 (.agg #[.int .i64 a, .int .i64 b, .int .i64 c]) (.agg #[.int .i64 a, .int .i64 b, .int .i64 c])).run Tryd.prog w = .ok true w := by
  have := eq3_arr a b c a b c w
  rw [show eq3 a b c a b c = true by simp [eq3]] at this
  exact this
set_option maxHeartbeats 4000000 in
set_option maxRecDepth 20000 in
theorem law_roots_no (x y z : Int) (hb : trB x y z = false) (w : World) : Calls Tryd.prog 4 #[.agg #[.int .i64 x, .int .i64 y, .int .i64 z]] w fun e w' => e = .returned (.bool true) ∧ Keeps w w' := by
  have hX := At.new w 35 #[.int .i64 x, .int .i64 y, .int .i64 z]
  have hk : Keeps w (w.alloc (.cells #[.int .i64 x, .int .i64 y, .int .i64 z] 35)) := Keeps.alloc (Below.refl _ _) _
  have cR := fun W => Root_no x y z hb W
  have cF := fun W => Form_bad x y z 2 (by decide) W (fun W => Root_no x y z hb W)
  have cT := fun W => refTriple_c x y z W
  have cA := fun W => awake_c W
  have em := eqv_self 0 0 0
  rw [hb] at cT
  clear hb
  go_enter Tryd.func4, Tryd.ntmps4
  go_wp2_with (first
    | (go_at_call 13; refine (cR _).mono ?_; rintro e w1 ⟨rfl, h1⟩; have hX1 := hX.later h1; have k1 := Keeps.next hk h1; have p1 := (row_six hX1).1; have p2 := (row_six hX1).2.1; have p3 := (row_six hX1).2.2.1)
    | (go_at_call 14; refine (cF _).mono ?_; rintro e w2 ⟨rfl, h2⟩; have hX2 := (hX1.later h2).alloc (.cells #[.int .i64 0, .int .i64 0, .int .i64 0] 35); have hF2 := At.new w2 35 #[.int .i64 0, .int .i64 0, .int .i64 0]; have k2 : Keeps w (w2.alloc (.cells #[.int .i64 0, .int .i64 0, .int .i64 0] 35)) := Keeps.alloc (Keeps.next k1 h2) _; have q1 := (row_six hX2).1; have q2 := (row_six hX2).2.1; have q3 := (row_six hX2).2.2.1)
    | (go_at_call 15; refine (cT _).mono ?_; rintro e w3 ⟨rfl, h3⟩; have k3 := Keeps.next k2 h3; have hX3 := hX2.later h3; have hF3 := hF2.later h3; have r1 := (row_six hX3).1; have r2 := (row_six hX3).2.1; have r3 := (row_six hX3).2.2.1; have s1 := (row_six hF3).1; have s2 := (row_six hF3).2.1; have s3 := (row_six hF3).2.2.1)
    | (go_at_call 9; refine (cA _).mono ?_; rintro e w4 ⟨rfl, h4⟩; have k4 := Keeps.next k3 h4))
  go_ret
  exact ⟨rfl, k4⟩
theorem Root_one3 (x y z : Int) (hb : trB x y z = true) (hz : z = 1) (w : World) :
    Calls Tryd.prog 13 #[.agg #[.int .i64 x, .int .i64 y, .int .i64 z]] w fun e w' => e = .returned (.tuple #[.int .i64 0, .int .i64 6]) ∧ Keeps w w' := by
  subst hz
  exact Root_one x y hb w
set_option maxHeartbeats 4000000 in
set_option maxRecDepth 20000 in
theorem law_roots_one (x y z : Int) (hb : trB x y z = true) (hz : z = 1) (w : World) : Calls Tryd.prog 4 #[.agg #[.int .i64 x, .int .i64 y, .int .i64 z]] w fun e w' => e = .returned (.bool true) ∧ Keeps w w' := by
  have hX := At.new w 35 #[.int .i64 x, .int .i64 y, .int .i64 z]
  have hk : Keeps w (w.alloc (.cells #[.int .i64 x, .int .i64 y, .int .i64 z] 35)) := Keeps.alloc (Below.refl _ _) _
  have cR := fun W => Root_one3 x y z hb hz W
  have cF := fun W => Form_bad x y z 6 (by decide) W (fun W => Root_one3 x y z hb hz W)
  have cT := fun W => refTriple_c x y z W
  have cA := fun W => awake_c W
  have em := eqv_self 0 0 0
  have hz1 : (z == 1) = true := by simpa using hz
  rw [hb] at cT
  clear hb hz
  go_enter Tryd.func4, Tryd.ntmps4
  go_wp2_with (first
    | (go_at_call 13; refine (cR _).mono ?_; rintro e w1 ⟨rfl, h1⟩; have hX1 := hX.later h1; have k1 := Keeps.next hk h1; have p1 := (row_six hX1).1; have p2 := (row_six hX1).2.1; have p3 := (row_six hX1).2.2.1)
    | (go_at_call 14; refine (cF _).mono ?_; rintro e w2 ⟨rfl, h2⟩; have hX2 := (hX1.later h2).alloc (.cells #[.int .i64 0, .int .i64 0, .int .i64 0] 35); have hF2 := At.new w2 35 #[.int .i64 0, .int .i64 0, .int .i64 0]; have k2 : Keeps w (w2.alloc (.cells #[.int .i64 0, .int .i64 0, .int .i64 0] 35)) := Keeps.alloc (Keeps.next k1 h2) _; have q1 := (row_six hX2).1; have q2 := (row_six hX2).2.1; have q3 := (row_six hX2).2.2.1)
    | (go_at_call 15; refine (cT _).mono ?_; rintro e w3 ⟨rfl, h3⟩; have k3 := Keeps.next k2 h3; have hX3 := hX2.later h3; have hF3 := hF2.later h3; have r1 := (row_six hX3).1; have r2 := (row_six hX3).2.1; have r3 := (row_six hX3).2.2.1; have s1 := (row_six hF3).1; have s2 := (row_six hF3).2.1; have s3 := (row_six hF3).2.2.1)
    | (go_at_call 9; refine (cA _).mono ?_; rintro e w4 ⟨rfl, h4⟩; have k4 := Keeps.next k3 h4))
  go_ret
  exact ⟨rfl, k4⟩
set_option maxHeartbeats 8000000 in
set_option maxRecDepth 20000 in
theorem law_roots_yes (x y z : Int) (hb : trB x y z = true) (hz : z ≠ 1) (w : World) : Calls Tryd.prog 4 #[.agg #[.int .i64 x, .int .i64 y, .int .i64 z]] w fun e w' => e = .returned (.bool true) ∧ Keeps w w' := by
  have hX := At.new w 35 #[.int .i64 x, .int .i64 y, .int .i64 z]
  have hk : Keeps w (w.alloc (.cells #[.int .i64 x, .int .i64 y, .int .i64 z] 35)) := Keeps.alloc (Below.refl _ _) _
  have ho := ((trB_iff _ _ _).1 hb).1
  have cR := fun W => Root_yes x y z hb hz W
  have cF := fun W => Form_yes x y z hb hz W
  have c1 := fun W => refRoot_c x y z ho W
  have c2 := fun W => refForm_c x y z ho W
  have cT := fun W => refTriple_c x y z W
  have cA := fun W => awake_c W
  have hz1 : (z == 1) = false := by simpa using hz
  rw [hb] at cT
  generalize formT x y z = F at *
  obtain ⟨f0, f1, f2⟩ := F
  simp only [ev] at cF c2
  generalize rootN x y z = u at *
  have em := eqv_self f0 f1 f2
  clear hb hz ho
  go_enter Tryd.func4, Tryd.ntmps4
  go_upto_region 7 with (first
    | (go_at_call 13; refine (cR _).mono ?_; rintro e w1 ⟨rfl, h1⟩; have hX1 := hX.later h1; have k1 := Keeps.next hk h1; have p1 := (row_six hX1).1; have p2 := (row_six hX1).2.1; have p3 := (row_six hX1).2.2.1)
    | (go_at_call 14; refine (cF _).mono ?_; rintro e w2 ⟨rfl, h2⟩; have hX2 := (hX1.later h2).alloc (.cells #[.int .i64 f0, .int .i64 f1, .int .i64 f2] 35); have hF2 := At.new w2 35 #[.int .i64 f0, .int .i64 f1, .int .i64 f2]; have k2 : Keeps w (w2.alloc (.cells #[.int .i64 f0, .int .i64 f1, .int .i64 f2] 35)) := Keeps.alloc (Keeps.next k1 h2) _; have q1 := (row_six hX2).1; have q2 := (row_six hX2).2.1; have q3 := (row_six hX2).2.2.1)
    | (go_at_call 15; refine (cT _).mono ?_; rintro e w3 ⟨rfl, h3⟩; have k3 := Keeps.next k2 h3; have hX3 := hX2.later h3; have hF3 := hF2.later h3; have r1 := (row_six hX3).1; have r2 := (row_six hX3).2.1; have r3 := (row_six hX3).2.2.1))
  have kk := k3
  clear k3 k1 k2 h1 h2 h3 hX1 hX2 hF2 hX hk cR cF cT hz1
  refine region_any_inv (G := Unit) (f := ?f7) (fun _ => [.int .i64 u, .agg #[.int .i64 x, .int .i64 y, .int .i64 z], .int .i64 u, .bool true, .bool true, .int .i64 0, .bool true, .bool true, .bool true, .agg #[.int .i64 f0, .int .i64 f1, .int .i64 f2], .agg #[.int .i64 x, .int .i64 y, .int .i64 z], .agg #[.int .i64 f0, .int .i64 f1, .int .i64 f2], .bool true, .bool true, .bool true, .int .i64 0, .bool true, .bool true, .bool true, .bool true, .bool true, .bool true])
    (fun _ _ w' => Keeps w3 w') () (fun _ => ?hf7) (by kernel_rfl) (by kernel_rfl) (below_drewN (n := 1) (Below.refl _ _)) ?steps7 ?fin7
  case hf7 =>
    simp only [fill, List.toList_toArray, List.zip_cons_cons, List.zip_nil_left, List.zip_nil_right, List.foldl_cons, List.foldl_nil, Act.put, List.setIfInBounds_toArray, List.set_cons_succ, List.set_cons_zero]
    exact rfl
  case steps7 =>
    refine StepsU.cons rfl (fun g L w' hL hr hc hF => ?_) ?_
    · have k3 : Keeps w3 w' := hF
      clear hF
      refine StepU.go rfl (fun K hK => ?_)
      go_simp
      exact hK () _ k3
    refine StepsU.cons rfl (fun g L w' hL hr hc hF => ?_) ?_
    · have k3 : Keeps w3 w' := hF
      clear hF
      have p1 := (row_six (hX3.later k3)).1
      have p2 := (row_six (hX3.later k3)).2.1
      have p3 := (row_six (hX3.later k3)).2.2.1
      refine StepU.go rfl (fun K hK => ?_)
      go_simp
      exact hK () _ k3
    refine StepsU.cons rfl (fun g L w' hL hr hc hF => ?_) ?_
    · have k3 : Keeps w3 w' := hF
      clear hF
      have call9 := c1 w'
      have C9 := Lib.hid call9
      clear call9
      refine StepU.go rfl (fun K hK => ?_)
      go_simp
      refine C9.out.mono ?_
      rintro e w2 ⟨rfl, b3⟩
      exact hK () _ (Keeps.next k3 b3)
    refine StepsU.cons rfl (fun g L w' hL hr hc hF => ?_) ?_
    · have k3 : Keeps w3 w' := hF
      clear hF
      refine StepU.go rfl (fun K hK => ?_)
      go_simp
      exact hK () _ k3
    refine StepsU.cons rfl (fun g L w' hL hr hc hF => ?_) ?_
    · have k3 : Keeps w3 w' := hF
      clear hF
      refine StepU.go rfl (fun K hK => ?_)
      go_simp
      exact hK () _ k3
    refine StepsU.cons rfl (fun g L w' hL hr hc hF => ?_) ?_
    · have k3 : Keeps w3 w' := hF
      clear hF
      refine StepU.go rfl (fun K hK => ?_)
      go_simp
      exact hK () _ k3
    refine StepsU.cons rfl (fun g L w' hL hr hc hF => ?_) ?_
    · have k3 : Keeps w3 w' := hF
      clear hF
      refine StepU.go rfl (fun K hK => ?_)
      go_simp
      exact hK () _ k3
    refine StepsU.cons rfl (fun g L w' hL hr hc hF => ?_) ?_
    · have k3 : Keeps w3 w' := hF
      clear hF
      refine StepU.go rfl (fun K hK => ?_)
      go_simp
      exact hK () _ k3
    refine StepsU.cons rfl (fun g L w' hL hr hc hF => ?_) ?_
    · have k3 : Keeps w3 w' := hF
      clear hF
      refine StepU.go rfl (fun K hK => ?_)
      go_simp
      exact hK () _ k3
    refine StepsU.cons rfl (fun g L w' hL hr hc hF => ?_) ?_
    · have k3 : Keeps w3 w' := hF
      clear hF
      have p1 := (row_six (hF3.later k3)).1
      have p2 := (row_six (hF3.later k3)).2.1
      have p3 := (row_six (hF3.later k3)).2.2.1
      refine StepU.go rfl (fun K hK => ?_)
      go_simp
      exact hK () _ k3
    refine StepsU.cons rfl (fun g L w' hL hr hc hF => ?_) ?_
    · have k3 : Keeps w3 w' := hF
      clear hF
      have p1 := (row_six (hX3.later k3)).1
      have p2 := (row_six (hX3.later k3)).2.1
      have p3 := (row_six (hX3.later k3)).2.2.1
      refine StepU.go rfl (fun K hK => ?_)
      go_simp
      exact hK () _ k3
    refine StepsU.cons rfl (fun g L w' hL hr hc hF => ?_) ?_
    · have k3 : Keeps w3 w' := hF
      clear hF
      have call9 := c2 w'
      have C9 := Lib.hid call9
      clear call9
      refine StepU.go rfl (fun K hK => ?_)
      go_simp
      refine C9.out.mono ?_
      rintro e w2 ⟨rfl, b3⟩
      exact hK () _ (Keeps.next k3 b3)
    refine StepsU.cons rfl (fun g L w' hL hr hc hF => ?_) ?_
    · have k3 : Keeps w3 w' := hF
      clear hF
      refine StepU.go rfl (fun K hK => ?_)
      go_simp
      exact hK () _ k3
    refine StepsU.cons rfl (fun g L w' hL hr hc hF => ?_) ?_
    · have k3 : Keeps w3 w' := hF
      clear hF
      refine StepU.go rfl (fun K hK => ?_)
      go_simp
      exact hK () _ k3
    refine StepsU.cons rfl (fun g L w' hL hr hc hF => ?_) ?_
    · have k3 : Keeps w3 w' := hF
      clear hF
      refine StepU.go rfl (fun K hK => ?_)
      go_simp
      exact hK () _ k3
    refine StepsU.cons rfl (fun g L w' hL hr hc hF => ?_) ?_
    · have k3 : Keeps w3 w' := hF
      clear hF
      refine StepU.go rfl (fun K hK => ?_)
      go_simp
      exact hK () _ k3
    refine StepsU.cons rfl (fun g L w' hL hr hc hF => ?_) ?_
    · have k3 : Keeps w3 w' := hF
      clear hF
      refine StepU.go rfl (fun K hK => ?_)
      go_simp
      exact hK () _ k3
    refine StepsU.cons rfl (fun g L w' hL hr hc hF => ?_) ?_
    · have k3 : Keeps w3 w' := hF
      clear hF
      refine StepU.go rfl (fun K hK => ?_)
      go_simp
      exact hK () _ k3
    refine StepsU.cons rfl (fun g L w' hL hr hc hF => ?_) ?_
    · have k3 : Keeps w3 w' := hF
      clear hF
      refine StepU.go rfl (fun K hK => ?_)
      go_simp
      exact hK () _ k3
    refine StepsU.cons rfl (fun g L w' hL hr hc hF => ?_) ?_
    · have k3 : Keeps w3 w' := hF
      clear hF
      have call9 := cA w'
      have C9 := Lib.hid call9
      clear call9
      refine StepU.go rfl (fun K hK => ?_)
      go_simp
      refine C9.out.mono ?_
      rintro e w2 ⟨rfl, b3⟩
      exact hK () _ (Keeps.next k3 b3)
    refine StepsU.cons rfl (fun g L w' hL hr hc hF => ?_) ?_
    · have k3 : Keeps w3 w' := hF
      clear hF
      refine StepU.go rfl (fun K hK => ?_)
      go_simp
      exact hK () _ k3
    refine StepsU.cons rfl (fun g L w' hL hr hc hF => ?_) ?_
    · have k3 : Keeps w3 w' := hF
      clear hF
      refine StepU.go rfl (fun K hK => ?_)
      go_simp
      exact hK () _ k3
    exact StepsU.nil (by simp)
  case fin7 =>
  intro g L w5 hall k5
  clear hall
  go_wp2_with fail
  go_ret
  exact ⟨rfl, Keeps.next kk k5⟩
theorem law_roots (x y z : Int) (w : World) : Calls Tryd.prog 4 #[.agg #[.int .i64 x, .int .i64 y, .int .i64 z]] w fun e w' => e = .returned (.bool true) ∧ Keeps w w' := by
  cases hb : trB x y z
  · exact law_roots_no x y z hb w
  · by_cases hz : z = 1
    · exact law_roots_one x y z hb hz w
    · exact law_roots_yes x y z hb hz w
end Go.Proofs.YtnlogppdnfhelabDoor
