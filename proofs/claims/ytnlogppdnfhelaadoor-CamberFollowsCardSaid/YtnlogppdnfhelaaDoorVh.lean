/- The law of Exchanges. -/
import Derived.Test.YtnlogppdnfhelaaDoorVg
namespace Go.Proofs.YtnlogppdnfhelaaDoor
open Go.RowKit
set_option linter.unusedVariables false
set_option linter.unusedSimpArgs false

theorem eq3_self (a b c : Int) (w : World) : (Op.equalIn 10000 22 (.agg #[.int .i64 a, .int .i64 b, .int .i64 c]) (.agg #[.int .i64 a, .int .i64 b, .int .i64 c])).run Tryd.prog w = .ok true w := by
  have := eq3_arr a b c a b c w
  rw [show eq3 a b c a b c = true by simp [eq3]] at this
  exact this
set_option maxHeartbeats 4000000 in
set_option maxRecDepth 20000 in
theorem law_ex_no (x y z a : Int) (hb : trB x y z = false) (w : World) : Calls Tryd.prog 4 #[.agg #[.int .i64 x, .int .i64 y, .int .i64 z], .int .i64 a] w fun e w' => e = .returned (.bool true) ∧ Keeps w w' := by
  have hX := At.new w 22 #[.int .i64 x, .int .i64 y, .int .i64 z]
  have hk : Keeps w (w.alloc (.cells #[.int .i64 x, .int .i64 y, .int .i64 z] 22)) := Keeps.alloc (Below.refl _ _) _
  have cX := fun W => Exchange_no x y z a hb W
  have cT := fun W => refTriple_c x y z W
  have cA := fun W => awake_c W
  have em := eq3_self 0 0 0
  rw [hb] at cT
  clear hb
  go_enter Tryd.func4, Tryd.ntmps4
  go_wp2_with (first
    | (go_at_call 12; refine (cX _).mono ?_; rintro e w1 ⟨rfl, h1⟩; have hX1 := (hX.later h1).alloc (.cells #[.int .i64 0, .int .i64 0, .int .i64 0] 22); have k1 : Keeps w (w1.alloc (.cells #[.int .i64 0, .int .i64 0, .int .i64 0] 22)) := Keeps.alloc (Keeps.next hk h1) _; have hO := At.new w1 22 #[.int .i64 0, .int .i64 0, .int .i64 0]; have p1 := (row_six hX1).1; have p2 := (row_six hX1).2.1; have p3 := (row_six hX1).2.2.1)
    | (go_at_call 10; refine (cT _).mono ?_; rintro e w2 ⟨rfl, h2⟩; have k2 := Keeps.next k1 h2; have hO2 := hO.later h2; have q1 := (row_six hO2).1; have q2 := (row_six hO2).2.1; have q3 := (row_six hO2).2.2.1)
    | (go_at_call 11; refine (cA _).mono ?_; rintro e w3 ⟨rfl, h3⟩; have k3 := Keeps.next k2 h3))
  go_ret
  exact ⟨rfl, k3⟩
set_option maxHeartbeats 4000000 in
set_option maxRecDepth 20000 in
theorem law_ex_low (x y z a : Int) (hb : trB x y z = true) (ha : a < 0) (w : World) : Calls Tryd.prog 4 #[.agg #[.int .i64 x, .int .i64 y, .int .i64 z], .int .i64 a] w fun e w' => e = .returned (.bool true) ∧ Keeps w w' := by
  have hX := At.new w 22 #[.int .i64 x, .int .i64 y, .int .i64 z]
  have hk : Keeps w (w.alloc (.cells #[.int .i64 x, .int .i64 y, .int .i64 z] 22)) := Keeps.alloc (Below.refl _ _) _
  have cX := fun W => Exchange_low x y z a hb ha W
  have cT := fun W => refTriple_c x y z W
  have cA := fun W => awake_c W
  have em := eq3_self 0 0 0
  have hd : decide (a < 0) = true := by simpa using ha
  rw [hb] at cT
  clear hb ha
  go_enter Tryd.func4, Tryd.ntmps4
  go_wp2_with (first
    | (go_at_call 12; refine (cX _).mono ?_; rintro e w1 ⟨rfl, h1⟩; have hX1 := (hX.later h1).alloc (.cells #[.int .i64 0, .int .i64 0, .int .i64 0] 22); have k1 : Keeps w (w1.alloc (.cells #[.int .i64 0, .int .i64 0, .int .i64 0] 22)) := Keeps.alloc (Keeps.next hk h1) _; have hO := At.new w1 22 #[.int .i64 0, .int .i64 0, .int .i64 0]; have p1 := (row_six hX1).1; have p2 := (row_six hX1).2.1; have p3 := (row_six hX1).2.2.1)
    | (go_at_call 10; refine (cT _).mono ?_; rintro e w2 ⟨rfl, h2⟩; have k2 := Keeps.next k1 h2; have hO2 := hO.later h2; have q1 := (row_six hO2).1; have q2 := (row_six hO2).2.1; have q3 := (row_six hO2).2.2.1)
    | (go_at_call 11; refine (cA _).mono ?_; rintro e w3 ⟨rfl, h3⟩; have k3 := Keeps.next k2 h3))
  go_ret
  exact ⟨rfl, k3⟩
set_option maxHeartbeats 4000000 in
set_option maxRecDepth 20000 in
theorem law_ex_high (x y z a : Int) (hb : trB x y z = true) (ha : 3 ≤ a) (w : World) : Calls Tryd.prog 4 #[.agg #[.int .i64 x, .int .i64 y, .int .i64 z], .int .i64 a] w fun e w' => e = .returned (.bool true) ∧ Keeps w w' := by
  have hX := At.new w 22 #[.int .i64 x, .int .i64 y, .int .i64 z]
  have hk : Keeps w (w.alloc (.cells #[.int .i64 x, .int .i64 y, .int .i64 z] 22)) := Keeps.alloc (Below.refl _ _) _
  have cX := fun W => Exchange_high x y z a hb ha W
  have cT := fun W => refTriple_c x y z W
  have cA := fun W => awake_c W
  have em := eq3_self 0 0 0
  have hd : decide (a < 0) = false := by simp; omega
  have hd2 : decide (2 < a) = true := by simp; omega
  rw [hb] at cT
  clear hb ha
  go_enter Tryd.func4, Tryd.ntmps4
  go_wp2_with (first
    | (go_at_call 12; refine (cX _).mono ?_; rintro e w1 ⟨rfl, h1⟩; have hX1 := (hX.later h1).alloc (.cells #[.int .i64 0, .int .i64 0, .int .i64 0] 22); have k1 : Keeps w (w1.alloc (.cells #[.int .i64 0, .int .i64 0, .int .i64 0] 22)) := Keeps.alloc (Keeps.next hk h1) _; have hO := At.new w1 22 #[.int .i64 0, .int .i64 0, .int .i64 0]; have p1 := (row_six hX1).1; have p2 := (row_six hX1).2.1; have p3 := (row_six hX1).2.2.1)
    | (go_at_call 10; refine (cT _).mono ?_; rintro e w2 ⟨rfl, h2⟩; have k2 := Keeps.next k1 h2; have hO2 := hO.later h2; have q1 := (row_six hO2).1; have q2 := (row_six hO2).2.1; have q3 := (row_six hO2).2.2.1)
    | (go_at_call 11; refine (cA _).mono ?_; rintro e w3 ⟨rfl, h3⟩; have k3 := Keeps.next k2 h3))
  go_ret
  exact ⟨rfl, k3⟩
set_option maxHeartbeats 4000000 in
set_option maxRecDepth 20000 in
theorem law_ex_0full (x y z : Int) (hb : trB x y z = true) (hf : 1000000000 < (leftT (x, y, z)).2.2) (w : World) : Calls Tryd.prog 4 #[.agg #[.int .i64 x, .int .i64 y, .int .i64 z], .int .i64 0] w fun e w' => e = .returned (.bool true) ∧ Keeps w w' := by
  have hX := At.new w 22 #[.int .i64 x, .int .i64 y, .int .i64 z]
  have hk : Keeps w (w.alloc (.cells #[.int .i64 x, .int .i64 y, .int .i64 z] 22)) := Keeps.alloc (Below.refl _ _) _
  have cX := fun W => Exchange_0full x y z hb hf W
  have cT := fun W => refTriple_c x y z W
  have cE := fun W => refEx0_c x y z ((trB_iff _ _ _).1 hb) W
  have cA := fun W => awake_c W
  rw [hb] at cT
  have hd : decide ((leftT (x, y, z)).2.2 ≤ 1000000000) = false := by simp; omega
  rw [hd] at cE
  clear hb hf hd
  generalize leftT (x, y, z) = o at *
  obtain ⟨o1, o2, o3⟩ := o
  simp only at cX cE
  have em := eq3_self 0 0 0
  go_enter Tryd.func4, Tryd.ntmps4
  go_wp2_with (first
    | (go_at_call 12; refine (cX _).mono ?_; rintro e w1 ⟨rfl, h1⟩; have hX1 := (hX.later h1).alloc (.cells #[.int .i64 0, .int .i64 0, .int .i64 0] 22); have k1 : Keeps w (w1.alloc (.cells #[.int .i64 0, .int .i64 0, .int .i64 0] 22)) := Keeps.alloc (Keeps.next hk h1) _; have hO := At.new w1 22 #[.int .i64 0, .int .i64 0, .int .i64 0]; have p1 := (row_six hX1).1; have p2 := (row_six hX1).2.1; have p3 := (row_six hX1).2.2.1)
    | (go_at_call 10; refine (cT _).mono ?_; rintro e w2 ⟨rfl, h2⟩; have k2 := Keeps.next k1 h2; have hO2 := hO.later h2; have hX2 := hX1.later h2; have q1 := (row_six hX2).1; have q2 := (row_six hX2).2.1; have q3 := (row_six hX2).2.2.1)
    | (go_at_call 13; refine (cE _).mono ?_; rintro e w4 ⟨rfl, h4⟩; have k4 : Keeps w (w4.alloc (.cells #[.int .i64 o1, .int .i64 o2, .int .i64 o3] 22)) := Keeps.alloc (Keeps.next k2 h4) _; have hO4 := (hO2.later h4).alloc (.cells #[.int .i64 o1, .int .i64 o2, .int .i64 o3] 22); have hE4 := At.new w4 22 #[.int .i64 o1, .int .i64 o2, .int .i64 o3]; have r1 := (row_six hO4).1; have r2 := (row_six hO4).2.1; have r3 := (row_six hO4).2.2.1; have s1 := (row_six hE4).1; have s2 := (row_six hE4).2.1; have s3 := (row_six hE4).2.2.1)
    | (go_at_call 11; refine (cA _).mono ?_; rintro e w3 ⟨rfl, h3⟩; have k3 := Keeps.next k4 h3))
  go_ret
  exact ⟨rfl, k3⟩
set_option maxHeartbeats 4000000 in
set_option maxRecDepth 20000 in
theorem law_ex_0ok (x y z : Int) (hb : trB x y z = true) (hf : (leftT (x, y, z)).2.2 ≤ 1000000000) (w : World) : Calls Tryd.prog 4 #[.agg #[.int .i64 x, .int .i64 y, .int .i64 z], .int .i64 0] w fun e w' => e = .returned (.bool true) ∧ Keeps w w' := by
  have hX := At.new w 22 #[.int .i64 x, .int .i64 y, .int .i64 z]
  have hk : Keeps w (w.alloc (.cells #[.int .i64 x, .int .i64 y, .int .i64 z] 22)) := Keeps.alloc (Below.refl _ _) _
  have cX := fun W => Exchange_0ok x y z hb hf W
  have cT := fun W => refTriple_c x y z W
  have cE := fun W => refEx0_c x y z ((trB_iff _ _ _).1 hb) W
  have cA := fun W => awake_c W
  rw [hb] at cT
  have hd : decide ((leftT (x, y, z)).2.2 ≤ 1000000000) = true := by simp; omega
  rw [hd] at cE
  clear hb hf hd
  generalize leftT (x, y, z) = o at *
  obtain ⟨o1, o2, o3⟩ := o
  simp only at cX cE
  have em := eq3_self o1 o2 o3
  go_enter Tryd.func4, Tryd.ntmps4
  go_wp2_with (first
    | (go_at_call 12; refine (cX _).mono ?_; rintro e w1 ⟨rfl, h1⟩; have hX1 := (hX.later h1).alloc (.cells #[.int .i64 o1, .int .i64 o2, .int .i64 o3] 22); have k1 : Keeps w (w1.alloc (.cells #[.int .i64 o1, .int .i64 o2, .int .i64 o3] 22)) := Keeps.alloc (Keeps.next hk h1) _; have hO := At.new w1 22 #[.int .i64 o1, .int .i64 o2, .int .i64 o3]; have p1 := (row_six hX1).1; have p2 := (row_six hX1).2.1; have p3 := (row_six hX1).2.2.1)
    | (go_at_call 10; refine (cT _).mono ?_; rintro e w2 ⟨rfl, h2⟩; have k2 := Keeps.next k1 h2; have hO2 := hO.later h2; have hX2 := hX1.later h2; have q1 := (row_six hX2).1; have q2 := (row_six hX2).2.1; have q3 := (row_six hX2).2.2.1)
    | (go_at_call 13; refine (cE _).mono ?_; rintro e w4 ⟨rfl, h4⟩; have k4 : Keeps w (w4.alloc (.cells #[.int .i64 o1, .int .i64 o2, .int .i64 o3] 22)) := Keeps.alloc (Keeps.next k2 h4) _; have hO4 := (hO2.later h4).alloc (.cells #[.int .i64 o1, .int .i64 o2, .int .i64 o3] 22); have hE4 := At.new w4 22 #[.int .i64 o1, .int .i64 o2, .int .i64 o3]; have r1 := (row_six hO4).1; have r2 := (row_six hO4).2.1; have r3 := (row_six hO4).2.2.1; have s1 := (row_six hE4).1; have s2 := (row_six hE4).2.1; have s3 := (row_six hE4).2.2.1)
    | (go_at_call 11; refine (cA _).mono ?_; rintro e w3 ⟨rfl, h3⟩; have k3 := Keeps.next k4 h3))
  go_ret
  exact ⟨rfl, k3⟩
set_option maxHeartbeats 4000000 in
set_option maxRecDepth 20000 in
theorem law_ex_1full (x y z : Int) (hb : trB x y z = true) (hf : 1000000000 < (rightT (x, y, z)).2.2) (w : World) : Calls Tryd.prog 4 #[.agg #[.int .i64 x, .int .i64 y, .int .i64 z], .int .i64 1] w fun e w' => e = .returned (.bool true) ∧ Keeps w w' := by
  have hX := At.new w 22 #[.int .i64 x, .int .i64 y, .int .i64 z]
  have hk : Keeps w (w.alloc (.cells #[.int .i64 x, .int .i64 y, .int .i64 z] 22)) := Keeps.alloc (Below.refl _ _) _
  have cX := fun W => Exchange_1full x y z hb hf W
  have cT := fun W => refTriple_c x y z W
  have cE := fun W => refEx1_c x y z ((trB_iff _ _ _).1 hb) W
  have cA := fun W => awake_c W
  rw [hb] at cT
  have hd : decide ((rightT (x, y, z)).2.2 ≤ 1000000000) = false := by simp; omega
  rw [hd] at cE
  clear hb hf hd
  generalize rightT (x, y, z) = o at *
  obtain ⟨o1, o2, o3⟩ := o
  simp only at cX cE
  have em := eq3_self 0 0 0
  go_enter Tryd.func4, Tryd.ntmps4
  go_wp2_with (first
    | (go_at_call 12; refine (cX _).mono ?_; rintro e w1 ⟨rfl, h1⟩; have hX1 := (hX.later h1).alloc (.cells #[.int .i64 0, .int .i64 0, .int .i64 0] 22); have k1 : Keeps w (w1.alloc (.cells #[.int .i64 0, .int .i64 0, .int .i64 0] 22)) := Keeps.alloc (Keeps.next hk h1) _; have hO := At.new w1 22 #[.int .i64 0, .int .i64 0, .int .i64 0]; have p1 := (row_six hX1).1; have p2 := (row_six hX1).2.1; have p3 := (row_six hX1).2.2.1)
    | (go_at_call 10; refine (cT _).mono ?_; rintro e w2 ⟨rfl, h2⟩; have k2 := Keeps.next k1 h2; have hO2 := hO.later h2; have hX2 := hX1.later h2; have q1 := (row_six hX2).1; have q2 := (row_six hX2).2.1; have q3 := (row_six hX2).2.2.1)
    | (go_at_call 13; refine (cE _).mono ?_; rintro e w4 ⟨rfl, h4⟩; have k4 : Keeps w (w4.alloc (.cells #[.int .i64 o1, .int .i64 o2, .int .i64 o3] 22)) := Keeps.alloc (Keeps.next k2 h4) _; have hO4 := (hO2.later h4).alloc (.cells #[.int .i64 o1, .int .i64 o2, .int .i64 o3] 22); have hE4 := At.new w4 22 #[.int .i64 o1, .int .i64 o2, .int .i64 o3]; have r1 := (row_six hO4).1; have r2 := (row_six hO4).2.1; have r3 := (row_six hO4).2.2.1; have s1 := (row_six hE4).1; have s2 := (row_six hE4).2.1; have s3 := (row_six hE4).2.2.1)
    | (go_at_call 11; refine (cA _).mono ?_; rintro e w3 ⟨rfl, h3⟩; have k3 := Keeps.next k4 h3))
  go_ret
  exact ⟨rfl, k3⟩
set_option maxHeartbeats 4000000 in
set_option maxRecDepth 20000 in
theorem law_ex_1ok (x y z : Int) (hb : trB x y z = true) (hf : (rightT (x, y, z)).2.2 ≤ 1000000000) (w : World) : Calls Tryd.prog 4 #[.agg #[.int .i64 x, .int .i64 y, .int .i64 z], .int .i64 1] w fun e w' => e = .returned (.bool true) ∧ Keeps w w' := by
  have hX := At.new w 22 #[.int .i64 x, .int .i64 y, .int .i64 z]
  have hk : Keeps w (w.alloc (.cells #[.int .i64 x, .int .i64 y, .int .i64 z] 22)) := Keeps.alloc (Below.refl _ _) _
  have cX := fun W => Exchange_1ok x y z hb hf W
  have cT := fun W => refTriple_c x y z W
  have cE := fun W => refEx1_c x y z ((trB_iff _ _ _).1 hb) W
  have cA := fun W => awake_c W
  rw [hb] at cT
  have hd : decide ((rightT (x, y, z)).2.2 ≤ 1000000000) = true := by simp; omega
  rw [hd] at cE
  clear hb hf hd
  generalize rightT (x, y, z) = o at *
  obtain ⟨o1, o2, o3⟩ := o
  simp only at cX cE
  have em := eq3_self o1 o2 o3
  go_enter Tryd.func4, Tryd.ntmps4
  go_wp2_with (first
    | (go_at_call 12; refine (cX _).mono ?_; rintro e w1 ⟨rfl, h1⟩; have hX1 := (hX.later h1).alloc (.cells #[.int .i64 o1, .int .i64 o2, .int .i64 o3] 22); have k1 : Keeps w (w1.alloc (.cells #[.int .i64 o1, .int .i64 o2, .int .i64 o3] 22)) := Keeps.alloc (Keeps.next hk h1) _; have hO := At.new w1 22 #[.int .i64 o1, .int .i64 o2, .int .i64 o3]; have p1 := (row_six hX1).1; have p2 := (row_six hX1).2.1; have p3 := (row_six hX1).2.2.1)
    | (go_at_call 10; refine (cT _).mono ?_; rintro e w2 ⟨rfl, h2⟩; have k2 := Keeps.next k1 h2; have hO2 := hO.later h2; have hX2 := hX1.later h2; have q1 := (row_six hX2).1; have q2 := (row_six hX2).2.1; have q3 := (row_six hX2).2.2.1)
    | (go_at_call 13; refine (cE _).mono ?_; rintro e w4 ⟨rfl, h4⟩; have k4 : Keeps w (w4.alloc (.cells #[.int .i64 o1, .int .i64 o2, .int .i64 o3] 22)) := Keeps.alloc (Keeps.next k2 h4) _; have hO4 := (hO2.later h4).alloc (.cells #[.int .i64 o1, .int .i64 o2, .int .i64 o3] 22); have hE4 := At.new w4 22 #[.int .i64 o1, .int .i64 o2, .int .i64 o3]; have r1 := (row_six hO4).1; have r2 := (row_six hO4).2.1; have r3 := (row_six hO4).2.2.1; have s1 := (row_six hE4).1; have s2 := (row_six hE4).2.1; have s3 := (row_six hE4).2.2.1)
    | (go_at_call 11; refine (cA _).mono ?_; rintro e w3 ⟨rfl, h3⟩; have k3 := Keeps.next k4 h3))
  go_ret
  exact ⟨rfl, k3⟩
set_option maxHeartbeats 4000000 in
set_option maxRecDepth 20000 in
theorem law_ex_2full (x y z : Int) (hb : trB x y z = true) (hf : 1000000000 < (upT (x, y, z)).2.2) (w : World) : Calls Tryd.prog 4 #[.agg #[.int .i64 x, .int .i64 y, .int .i64 z], .int .i64 2] w fun e w' => e = .returned (.bool true) ∧ Keeps w w' := by
  have hX := At.new w 22 #[.int .i64 x, .int .i64 y, .int .i64 z]
  have hk : Keeps w (w.alloc (.cells #[.int .i64 x, .int .i64 y, .int .i64 z] 22)) := Keeps.alloc (Below.refl _ _) _
  have cX := fun W => Exchange_2full x y z hb hf W
  have cT := fun W => refTriple_c x y z W
  have cE := fun W => refEx2_c x y z ((trB_iff _ _ _).1 hb) W
  have cA := fun W => awake_c W
  rw [hb] at cT
  have hd : decide ((upT (x, y, z)).2.2 ≤ 1000000000) = false := by simp; omega
  rw [hd] at cE
  clear hb hf hd
  generalize upT (x, y, z) = o at *
  obtain ⟨o1, o2, o3⟩ := o
  simp only at cX cE
  have em := eq3_self 0 0 0
  go_enter Tryd.func4, Tryd.ntmps4
  go_wp2_with (first
    | (go_at_call 12; refine (cX _).mono ?_; rintro e w1 ⟨rfl, h1⟩; have hX1 := (hX.later h1).alloc (.cells #[.int .i64 0, .int .i64 0, .int .i64 0] 22); have k1 : Keeps w (w1.alloc (.cells #[.int .i64 0, .int .i64 0, .int .i64 0] 22)) := Keeps.alloc (Keeps.next hk h1) _; have hO := At.new w1 22 #[.int .i64 0, .int .i64 0, .int .i64 0]; have p1 := (row_six hX1).1; have p2 := (row_six hX1).2.1; have p3 := (row_six hX1).2.2.1)
    | (go_at_call 10; refine (cT _).mono ?_; rintro e w2 ⟨rfl, h2⟩; have k2 := Keeps.next k1 h2; have hO2 := hO.later h2; have hX2 := hX1.later h2; have q1 := (row_six hX2).1; have q2 := (row_six hX2).2.1; have q3 := (row_six hX2).2.2.1)
    | (go_at_call 13; refine (cE _).mono ?_; rintro e w4 ⟨rfl, h4⟩; have k4 : Keeps w (w4.alloc (.cells #[.int .i64 o1, .int .i64 o2, .int .i64 o3] 22)) := Keeps.alloc (Keeps.next k2 h4) _; have hO4 := (hO2.later h4).alloc (.cells #[.int .i64 o1, .int .i64 o2, .int .i64 o3] 22); have hE4 := At.new w4 22 #[.int .i64 o1, .int .i64 o2, .int .i64 o3]; have r1 := (row_six hO4).1; have r2 := (row_six hO4).2.1; have r3 := (row_six hO4).2.2.1; have s1 := (row_six hE4).1; have s2 := (row_six hE4).2.1; have s3 := (row_six hE4).2.2.1)
    | (go_at_call 11; refine (cA _).mono ?_; rintro e w3 ⟨rfl, h3⟩; have k3 := Keeps.next k4 h3))
  go_ret
  exact ⟨rfl, k3⟩
set_option maxHeartbeats 4000000 in
set_option maxRecDepth 20000 in
theorem law_ex_2ok (x y z : Int) (hb : trB x y z = true) (hf : (upT (x, y, z)).2.2 ≤ 1000000000) (w : World) : Calls Tryd.prog 4 #[.agg #[.int .i64 x, .int .i64 y, .int .i64 z], .int .i64 2] w fun e w' => e = .returned (.bool true) ∧ Keeps w w' := by
  have hX := At.new w 22 #[.int .i64 x, .int .i64 y, .int .i64 z]
  have hk : Keeps w (w.alloc (.cells #[.int .i64 x, .int .i64 y, .int .i64 z] 22)) := Keeps.alloc (Below.refl _ _) _
  have cX := fun W => Exchange_2ok x y z hb hf W
  have cT := fun W => refTriple_c x y z W
  have cE := fun W => refEx2_c x y z ((trB_iff _ _ _).1 hb) W
  have cA := fun W => awake_c W
  rw [hb] at cT
  have hd : decide ((upT (x, y, z)).2.2 ≤ 1000000000) = true := by simp; omega
  rw [hd] at cE
  clear hb hf hd
  generalize upT (x, y, z) = o at *
  obtain ⟨o1, o2, o3⟩ := o
  simp only at cX cE
  have em := eq3_self o1 o2 o3
  go_enter Tryd.func4, Tryd.ntmps4
  go_wp2_with (first
    | (go_at_call 12; refine (cX _).mono ?_; rintro e w1 ⟨rfl, h1⟩; have hX1 := (hX.later h1).alloc (.cells #[.int .i64 o1, .int .i64 o2, .int .i64 o3] 22); have k1 : Keeps w (w1.alloc (.cells #[.int .i64 o1, .int .i64 o2, .int .i64 o3] 22)) := Keeps.alloc (Keeps.next hk h1) _; have hO := At.new w1 22 #[.int .i64 o1, .int .i64 o2, .int .i64 o3]; have p1 := (row_six hX1).1; have p2 := (row_six hX1).2.1; have p3 := (row_six hX1).2.2.1)
    | (go_at_call 10; refine (cT _).mono ?_; rintro e w2 ⟨rfl, h2⟩; have k2 := Keeps.next k1 h2; have hO2 := hO.later h2; have hX2 := hX1.later h2; have q1 := (row_six hX2).1; have q2 := (row_six hX2).2.1; have q3 := (row_six hX2).2.2.1)
    | (go_at_call 13; refine (cE _).mono ?_; rintro e w4 ⟨rfl, h4⟩; have k4 : Keeps w (w4.alloc (.cells #[.int .i64 o1, .int .i64 o2, .int .i64 o3] 22)) := Keeps.alloc (Keeps.next k2 h4) _; have hO4 := (hO2.later h4).alloc (.cells #[.int .i64 o1, .int .i64 o2, .int .i64 o3] 22); have hE4 := At.new w4 22 #[.int .i64 o1, .int .i64 o2, .int .i64 o3]; have r1 := (row_six hO4).1; have r2 := (row_six hO4).2.1; have r3 := (row_six hO4).2.2.1; have s1 := (row_six hE4).1; have s2 := (row_six hE4).2.1; have s3 := (row_six hE4).2.2.1)
    | (go_at_call 11; refine (cA _).mono ?_; rintro e w3 ⟨rfl, h3⟩; have k3 := Keeps.next k4 h3))
  go_ret
  exact ⟨rfl, k3⟩
theorem law_exchanges (x y z a : Int) (w : World) (wa : (Lit.int .i64 a).wf = true) : Calls Tryd.prog 4 #[.agg #[.int .i64 x, .int .i64 y, .int .i64 z], .int .i64 a] w fun e w' => e = .returned (.bool true) ∧ Keeps w w' := by
  cases hb : trB x y z
  · exact law_ex_no x y z a hb w
  · rcases Int.lt_or_le a 0 with ha | ha
    · exact law_ex_low x y z a hb ha w
    · rcases Int.lt_or_le 2 a with h2 | h2
      · exact law_ex_high x y z a hb (by omega) w
      · have h3 : a = 0 ∨ a = 1 ∨ a = 2 := by omega
        rcases h3 with rfl | rfl | rfl
        · rcases Int.lt_or_le 1000000000 (leftT (x, y, z)).2.2 with hf | hf
          · exact law_ex_0full x y z hb hf w
          · exact law_ex_0ok x y z hb hf w
        · rcases Int.lt_or_le 1000000000 (rightT (x, y, z)).2.2 with hf | hf
          · exact law_ex_1full x y z hb hf w
          · exact law_ex_1ok x y z hb hf w
        · rcases Int.lt_or_le 1000000000 (upT (x, y, z)).2.2 with hf | hf
          · exact law_ex_2full x y z hb hf w
          · exact law_ex_2ok x y z hb hf w
end Go.Proofs.YtnlogppdnfhelaaDoor
