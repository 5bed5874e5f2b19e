/- The law of Parents. -/
import Derived.Test.YtnlogppdnfhelaaDoorVi
namespace Go.Proofs.YtnlogppdnfhelaaDoor
open Go.RowKit
set_option linter.unusedVariables false
set_option linter.unusedSimpArgs false

set_option maxHeartbeats 4000000 in
set_option maxRecDepth 20000 in
theorem law_par_no (x y z : Int) (hb : trB x y z = false) (w : World) : Calls Tryd.prog 5 #[.agg #[.int .i64 x, .int .i64 y, .int .i64 z]] w fun e w' => e = .returned (.bool true) ∧ Keeps w w' := by
  have hX := At.new w 22 #[.int .i64 x, .int .i64 y, .int .i64 z]
  have hk : Keeps w (w.alloc (.cells #[.int .i64 x, .int .i64 y, .int .i64 z] 22)) := Keeps.alloc (Below.refl _ _) _
  have cP := fun W => Parent_no x y z hb W
  have cC := fun W => Children_no x y z hb W
  have cT := fun W => refTriple_c x y z W
  have cA := fun W => awake_c W
  have em := eq3_self 0 0 0
  rw [hb] at cT
  clear hb
  go_enter Tryd.func5, Tryd.ntmps5
  go_wp2_with (first
    | (go_at_call 14; refine (cP _).mono ?_; rintro e w1 ⟨rfl, h1⟩; have hX1 := (hX.later h1).alloc (.cells #[.int .i64 0, .int .i64 0, .int .i64 0] 22); have k1 : Keeps w (w1.alloc (.cells #[.int .i64 0, .int .i64 0, .int .i64 0] 22)) := Keeps.alloc (Keeps.next hk h1) _; have hO := At.new w1 22 #[.int .i64 0, .int .i64 0, .int .i64 0]; have p1 := (row_six hX1).1; have p2 := (row_six hX1).2.1; have p3 := (row_six hX1).2.2.1)
    | (go_at_call 15; refine (cC _).mono ?_; rintro e w2 ⟨rfl, h2⟩; have k2 := Keeps.next k1 h2; have hO2 := hO.later h2; have hX2 := hX1.later h2; have q1 := (row_six hX2).1; have q2 := (row_six hX2).2.1; have q3 := (row_six hX2).2.2.1)
    | (go_at_call 10; refine (cT _).mono ?_; rintro e w3 ⟨rfl, h3⟩; have k3 := Keeps.next k2 h3; have hO3 := hO2.later h3; have r1 := (row_six hO3).1; have r2 := (row_six hO3).2.1; have r3 := (row_six hO3).2.2.1)
    | (go_at_call 11; refine (cA _).mono ?_; rintro e w4 ⟨rfl, h4⟩; have k4 := Keeps.next k3 h4))
  go_ret
  exact ⟨rfl, k4⟩
set_option maxHeartbeats 4000000 in
set_option maxRecDepth 20000 in
theorem law_par_one (x y z : Int) (hb : trB x y z = true) (hz : z = 1) (w : World) : Calls Tryd.prog 5 #[.agg #[.int .i64 x, .int .i64 y, .int .i64 z]] w fun e w' => e = .returned (.bool true) ∧ Keeps w w' := by
  have hX := At.new w 22 #[.int .i64 x, .int .i64 y, .int .i64 z]
  have hk : Keeps w (w.alloc (.cells #[.int .i64 x, .int .i64 y, .int .i64 z] 22)) := Keeps.alloc (Below.refl _ _) _
  have ht := (trB_iff _ _ _).1 hb
  have hcase : eq3 x y z 1 1 1 = true := by
    rw [eq3_iff]; obtain ⟨⟨o1, o2, o3, o4⟩, -⟩ := ht; omega
  have cP := fun W => Parent_one x y z hb hcase W
  have cC := fun W => Children_yes x y z hb W
  have cR := fun W => refChildren_c x y z ht W
  have cT := fun W => refTriple_c x y z W
  have cA := fun W => awake_c W
  have hll : (chl (x, y, z)).length ≤ 2 := by
    have h1 := chK_len [] (leftT (x, y, z))
    have h2 := chK_len (chK [] (leftT (x, y, z))) (rightT (x, y, z))
    unfold chl
    simp only [List.length_nil] at h1
    omega
  rw [hb] at cT
  generalize chl (x, y, z) = L at *
  have cS : ∀ (C B : Option Addr) (c d : Nat) W, RdE W (.slice C L.length c) L → RdE W (.slice B L.length d) L → Calls Tryd.prog 16 #[.slice C L.length c, .slice B L.length d] W fun e w' => e = .returned (.bool true) ∧ Keeps W w' := fun C B c d W h1 h2 => by
    have := same_c C B c d L L W h1 h2
    rw [decide_eq_true (rfl : L = L)] at this
    exact this
  have em := eq3_self 0 0 0
  have hz1 : (z == 1) = true := by simpa using hz
  clear hb ht hcase hz
  go_enter Tryd.func5, Tryd.ntmps5
  go_wp2_with (first
    | (go_at_call 14; refine (cP _).mono ?_; rintro e w1 ⟨rfl, h1⟩; have hX1 := (hX.later h1).alloc (.cells #[.int .i64 0, .int .i64 0, .int .i64 0] 22); have k1 : Keeps w (w1.alloc (.cells #[.int .i64 0, .int .i64 0, .int .i64 0] 22)) := Keeps.alloc (Keeps.next hk h1) _; have hO := At.new w1 22 #[.int .i64 0, .int .i64 0, .int .i64 0]; have p1 := (row_six hX1).1; have p2 := (row_six hX1).2.1; have p3 := (row_six hX1).2.2.1)
    | (go_at_call 15; refine (cC _).mono ?_; rintro e w2 ⟨v2, rfl, ho2, h2⟩; obtain ⟨C, c, hs, -, -⟩ := id (own_edges ho2 (by unfold maxLen; omega)); subst hs; have hrd := own_edges ho2 (by unfold maxLen; omega); clear ho2; have k2 := Keeps.next k1 h2; have hO2 := hO.later h2; have hX2 := hX1.later h2; have q1 := (row_six hX2).1; have q2 := (row_six hX2).2.1; have q3 := (row_six hX2).2.2.1)
    | (go_at_call 10; refine (cT _).mono ?_; rintro e w3 ⟨rfl, h3⟩; have hrd3 := hrd.below h3; have k3 := Keeps.next k2 h3; have hO3 := hO2.later h3; have hX3 := hX2.later h3; have r1 := (row_six hX3).1; have r2 := (row_six hX3).2.1; have r3 := (row_six hX3).2.2.1)
    | (go_at_call 17; refine (cR _).mono ?_; rintro e w5 ⟨v5, rfl, ho5, h5⟩; obtain ⟨B, d, hs, -, -⟩ := id (own_edges ho5 (by unfold maxLen; omega)); subst hs; have hre := own_edges ho5 (by unfold maxLen; omega); clear ho5; have hrd5 := hrd3.below h5; have k5 := Keeps.next k3 h5; have hO5 := hO3.later h5; have hX5 := hX3.later h5)
    | (go_at_call 16; refine (cS _ _ _ _ _ hrd5 hre).mono ?_; rintro e w6 ⟨rfl, h6⟩; have k6 := Keeps.next k5 h6; have hO6 := hO5.later h6; have hX6 := hX5.later h6; have s1 := (row_six hX6).1; have s2 := (row_six hX6).2.1; have s3 := (row_six hX6).2.2.1; have t1 := (row_six hO6).1; have t2 := (row_six hO6).2.1; have t3 := (row_six hO6).2.2.1)
    | (go_at_call 11; refine (cA _).mono ?_; rintro e w8 ⟨rfl, h8⟩; have k8 := Keeps.next k6 h8))
  go_ret
  exact ⟨rfl, k8⟩
set_option maxHeartbeats 4000000 in
set_option maxRecDepth 20000 in
theorem law_par_yes (x y z : Int) (hb : trB x y z = true) (hz : z ≠ 1) (w : World) : Calls Tryd.prog 5 #[.agg #[.int .i64 x, .int .i64 y, .int .i64 z]] w fun e w' => e = .returned (.bool true) ∧ Keeps w w' := by
  have hX := At.new w 22 #[.int .i64 x, .int .i64 y, .int .i64 z]
  have hk : Keeps w (w.alloc (.cells #[.int .i64 x, .int .i64 y, .int .i64 z] 22)) := Keeps.alloc (Below.refl _ _) _
  have ht := (trB_iff _ _ _).1 hb
  have hcase : eq3 x y z 1 1 1 = false := by
    cases h : eq3 x y z 1 1 1
    · rfl
    · rw [eq3_iff] at h; exact absurd h.2.2 hz
  have cP := fun W => Parent_yes x y z hb hcase W
  have cC := fun W => Children_yes x y z hb W
  have cR := fun W => refChildren_c x y z ht W
  have cT := fun W => refTriple_c x y z W
  have cA := fun W => awake_c W
  have hll : (chl (x, y, z)).length ≤ 2 := by
    have h1 := chK_len [] (leftT (x, y, z))
    have h2 := chK_len (chK [] (leftT (x, y, z))) (rightT (x, y, z))
    unfold chl
    simp only [List.length_nil] at h1
    omega
  rw [hb] at cT
  generalize chl (x, y, z) = L at *
  have cS : ∀ (C B : Option Addr) (c d : Nat) W, RdE W (.slice C L.length c) L → RdE W (.slice B L.length d) L → Calls Tryd.prog 16 #[.slice C L.length c, .slice B L.length d] W fun e w' => e = .returned (.bool true) ∧ Keeps W w' := fun C B c d W h1 h2 => by
    have := same_c C B c d L L W h1 h2
    rw [decide_eq_true (rfl : L = L)] at this
    exact this
  have cE := fun W => refEx2_c x y z ht W
  have hz1 : (z == 1) = false := by simpa using hz
  generalize decide ((upT (x, y, z)).2.2 ≤ 1000000000) = D at *
  generalize upT (x, y, z) = o at *
  obtain ⟨o1, o2, o3⟩ := o
  simp only at cP cE
  have em := eq3_self o1 o2 o3
  clear hb ht hcase hz
  go_enter Tryd.func5, Tryd.ntmps5
  go_wp2_with (first
    | (go_at_call 14; refine (cP _).mono ?_; rintro e w1 ⟨rfl, h1⟩; have hX1 := (hX.later h1).alloc (.cells #[.int .i64 o1, .int .i64 o2, .int .i64 o3] 22); have k1 : Keeps w (w1.alloc (.cells #[.int .i64 o1, .int .i64 o2, .int .i64 o3] 22)) := Keeps.alloc (Keeps.next hk h1) _; have hO := At.new w1 22 #[.int .i64 o1, .int .i64 o2, .int .i64 o3]; have p1 := (row_six hX1).1; have p2 := (row_six hX1).2.1; have p3 := (row_six hX1).2.2.1)
    | (go_at_call 15; refine (cC _).mono ?_; rintro e w2 ⟨v2, rfl, ho2, h2⟩; obtain ⟨C, c, hs, -, -⟩ := id (own_edges ho2 (by unfold maxLen; omega)); subst hs; have hrd := own_edges ho2 (by unfold maxLen; omega); clear ho2; have k2 := Keeps.next k1 h2; have hO2 := hO.later h2; have hX2 := hX1.later h2; have q1 := (row_six hX2).1; have q2 := (row_six hX2).2.1; have q3 := (row_six hX2).2.2.1)
    | (go_at_call 10; refine (cT _).mono ?_; rintro e w3 ⟨rfl, h3⟩; have hrd3 := hrd.below h3; have k3 := Keeps.next k2 h3; have hO3 := hO2.later h3; have hX3 := hX2.later h3; have r1 := (row_six hX3).1; have r2 := (row_six hX3).2.1; have r3 := (row_six hX3).2.2.1)
    | (go_at_call 17; refine (cR _).mono ?_; rintro e w5 ⟨v5, rfl, ho5, h5⟩; obtain ⟨B, d, hs, -, -⟩ := id (own_edges ho5 (by unfold maxLen; omega)); subst hs; have hre := own_edges ho5 (by unfold maxLen; omega); clear ho5; have hrd5 := hrd3.below h5; have k5 := Keeps.next k3 h5; have hO5 := hO3.later h5; have hX5 := hX3.later h5)
    | (go_at_call 16; refine (cS _ _ _ _ _ hrd5 hre).mono ?_; rintro e w6 ⟨rfl, h6⟩; have k6 := Keeps.next k5 h6; have hO6 := hO5.later h6; have hX6 := hX5.later h6; have s1 := (row_six hX6).1; have s2 := (row_six hX6).2.1; have s3 := (row_six hX6).2.2.1; have t1 := (row_six hO6).1; have t2 := (row_six hO6).2.1; have t3 := (row_six hO6).2.2.1)
    | (go_at_call 13; refine (cE _).mono ?_; rintro e w7 ⟨rfl, h7⟩; have k6 : Keeps w (w7.alloc (.cells #[.int .i64 o1, .int .i64 o2, .int .i64 o3] 22)) := Keeps.alloc (Keeps.next k6 h7) _; have hO7 := (hO6.later h7).alloc (.cells #[.int .i64 o1, .int .i64 o2, .int .i64 o3] 22); have hE7 := At.new w7 22 #[.int .i64 o1, .int .i64 o2, .int .i64 o3]; have u1 := (row_six hO7).1; have u2 := (row_six hO7).2.1; have u3 := (row_six hO7).2.2.1; have y1 := (row_six hE7).1; have y2 := (row_six hE7).2.1; have y3 := (row_six hE7).2.2.1)
    | (go_at_call 11; refine (cA _).mono ?_; rintro e w8 ⟨rfl, h8⟩; have k8 := Keeps.next k6 h8))
  go_ret
  exact ⟨rfl, k8⟩
theorem law_parents (x y z : Int) (w : World) : Calls Tryd.prog 5 #[.agg #[.int .i64 x, .int .i64 y, .int .i64 z]] w fun e w' => e = .returned (.bool true) ∧ Keeps w w' := by
  cases hb : trB x y z
  · exact law_par_no x y z hb w
  · by_cases hz : z = 1
    · exact law_par_one x y z hb hz w
    · exact law_par_yes x y z hb hz w
end Go.Proofs.YtnlogppdnfhelaaDoor
