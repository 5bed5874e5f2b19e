/- The law of Paths. -/
import Derived.Test.YtnlogppdnfhelaaDoorVk
namespace Go.Proofs.YtnlogppdnfhelaaDoor
open Go.RowKit
set_option linter.unusedVariables false
set_option linter.unusedSimpArgs false

set_option maxHeartbeats 4000000 in
set_option maxRecDepth 20000 in
theorem law_path_no (x y z : Int) (hb : trB x y z = false) (w : World) : Calls Tryd.prog 6 #[.agg #[.int .i64 x, .int .i64 y, .int .i64 z]] w fun e w' => e = .returned (.bool true) ∧ Keeps w w' := by
  have hX := At.new w 22 #[.int .i64 x, .int .i64 y, .int .i64 z]
  have hk : Keeps w (w.alloc (.cells #[.int .i64 x, .int .i64 y, .int .i64 z] 22)) := Keeps.alloc (Below.refl _ _) _
  have cP := fun W => Path_no x y z hb W
  have cT := fun W => refTriple_c x y z W
  have cA := fun W => awake_c W
  rw [hb] at cT
  clear hb
  go_enter Tryd.func6, Tryd.ntmps6
  go_wp2_with (first
    | (go_at_call 18; refine (cP _).mono ?_; rintro e w1 ⟨rfl, h1⟩; have hX1 := hX.later h1; have k1 := Keeps.next hk h1; have p1 := (row_six hX1).1; have p2 := (row_six hX1).2.1; have p3 := (row_six hX1).2.2.1)
    | (go_at_call 10; refine (cT _).mono ?_; rintro e w2 ⟨rfl, h2⟩; have k2 := Keeps.next k1 h2)
    | (go_at_call 11; refine (cA _).mono ?_; rintro e w3 ⟨rfl, h3⟩; have k3 := Keeps.next k2 h3))
  go_ret
  exact ⟨rfl, k3⟩
set_option maxHeartbeats 4000000 in
set_option maxRecDepth 20000 in
theorem law_path_low (x y z : Int) (hb : trB x y z = true) (h5 : z < 5) (w : World) : Calls Tryd.prog 6 #[.agg #[.int .i64 x, .int .i64 y, .int .i64 z]] w fun e w' => e = .returned (.bool true) ∧ Keeps w w' := by
  have hX := At.new w 22 #[.int .i64 x, .int .i64 y, .int .i64 z]
  have hk : Keeps w (w.alloc (.cells #[.int .i64 x, .int .i64 y, .int .i64 z] 22)) := Keeps.alloc (Below.refl _ _) _
  have cP := fun W => Path_none x y z hb h5 W
  have cR := fun W => refPath_low x y z h5 W
  have cT := fun W => refTriple_c x y z W
  have cA := fun W => awake_c W
  rw [hb] at cT
  clear hb h5
  go_enter Tryd.func6, Tryd.ntmps6
  go_wp2_with (first
    | (go_at_call 18; refine (cP _).mono ?_; rintro e w1 ⟨rfl, h1⟩; have hX1 := hX.later h1; have k1 := Keeps.next hk h1; have p1 := (row_six hX1).1; have p2 := (row_six hX1).2.1; have p3 := (row_six hX1).2.2.1)
    | (go_at_call 10; refine (cT _).mono ?_; rintro e w2 ⟨rfl, h2⟩; have hX2 := hX1.later h2; have k2 := Keeps.next k1 h2; have q1 := (row_six hX2).1; have q2 := (row_six hX2).2.1; have q3 := (row_six hX2).2.2.1)
    | (go_at_call 19; refine (cR _).mono ?_; rintro e w4 ⟨rfl, h4⟩; have k4 := Keeps.next k2 h4)
    | (go_at_call 11; refine (cA _).mono ?_; rintro e w3 ⟨rfl, h3⟩; have k3 := Keeps.next k4 h3))
  go_ret
  exact ⟨rfl, k3⟩
set_option maxHeartbeats 4000000 in
set_option maxRecDepth 20000 in
theorem law_path_yes (x y z : Int) (hb : trB x y z = true) (h5 : 5 ≤ z) (w : World) : Calls Tryd.prog 6 #[.agg #[.int .i64 x, .int .i64 y, .int .i64 z]] w fun e w' => e = .returned (.bool true) ∧ Keeps w w' := by
  have hX := At.new w 22 #[.int .i64 x, .int .i64 y, .int .i64 z]
  have hk : Keeps w (w.alloc (.cells #[.int .i64 x, .int .i64 y, .int .i64 z] 22)) := Keeps.alloc (Below.refl _ _) _
  have cP := fun W => Path_yes x y z hb h5 W
  have cR := fun W => refPath_c x y z ((trB_iff _ _ _).1 hb) h5 W
  have cT := fun W => refTriple_c x y z W
  have cA := fun W => awake_c W
  rw [hb] at cT
  clear hb h5
  generalize (⟨(pth (x, y, z)).toArray⟩ : ByteArray) = S at *
  go_enter Tryd.func6, Tryd.ntmps6
  go_wp2_with (first
    | (go_at_call 18; refine (cP _).mono ?_; rintro e w1 ⟨rfl, h1⟩; have hX1 := hX.later h1; have k1 := Keeps.next hk h1; have p1 := (row_six hX1).1; have p2 := (row_six hX1).2.1; have p3 := (row_six hX1).2.2.1)
    | (go_at_call 10; refine (cT _).mono ?_; rintro e w2 ⟨rfl, h2⟩; have hX2 := hX1.later h2; have k2 := Keeps.next k1 h2; have q1 := (row_six hX2).1; have q2 := (row_six hX2).2.1; have q3 := (row_six hX2).2.2.1)
    | (go_at_call 19; refine (cR _).mono ?_; rintro e w4 ⟨rfl, h4⟩; have k4 := Keeps.next k2 h4)
    | (go_at_call 11; refine (cA _).mono ?_; rintro e w3 ⟨rfl, h3⟩; have k3 := Keeps.next k4 h3))
  go_ret
  exact ⟨rfl, k3⟩
theorem law_paths (x y z : Int) (w : World) : Calls Tryd.prog 6 #[.agg #[.int .i64 x, .int .i64 y, .int .i64 z]] w fun e w' => e = .returned (.bool true) ∧ Keeps w w' := by
  cases hb : trB x y z
  · exact law_path_no x y z hb w
  · rcases Int.lt_or_le z 5 with h | h
    · exact law_path_low x y z hb h w
    · exact law_path_yes x y z hb h w
end Go.Proofs.YtnlogppdnfhelaaDoor
