/- The law of Triples. -/
import Derived.Test.YtnlogppdnfhelaaDoorVa
namespace Go.Proofs.YtnlogppdnfhelaaDoor
open Go.RowKit
set_option linter.unusedVariables false
set_option linter.unusedSimpArgs false

set_option maxHeartbeats 2000000 in
theorem law_triples (x y z : Int) (w : World) : Calls Tryd.prog 3 #[.agg #[.int .i64 x, .int .i64 y, .int .i64 z]] w fun e w' => e = .returned (.bool true) ∧ Keeps w w' := by
  have hX := At.new w 22 #[.int .i64 x, .int .i64 y, .int .i64 z]
  have hk : Keeps w (w.alloc (.cells #[.int .i64 x, .int .i64 y, .int .i64 z] 22)) := Keeps.alloc (Below.refl _ _) _
  have cI := fun W => IsTriple_c x y z W
  have cR := fun W => refTriple_c x y z W
  have cA := fun W => awake_c W
  generalize trB x y z = B at *
  go_enter Tryd.func3, Tryd.ntmps3
  go_wp2_with (first
    | (go_at_call 9; refine (cI _).mono ?_; rintro e w1 ⟨rfl, h1⟩; have a1 := hX.later h1; have p1 := (row_six a1).1; have p2 := (row_six a1).2.1; have p3 := (row_six a1).2.2.1; have k1 := Keeps.next hk h1)
    | (go_at_call 10; refine (cR _).mono ?_; rintro e w2 ⟨rfl, h2⟩; have k2 := Keeps.next k1 h2)
    | (go_at_call 11; refine (cA _).mono ?_; rintro e w3 ⟨rfl, h3⟩; have k3 := Keeps.next k2 h3))
  go_ret
  exact ⟨rfl, k3⟩
end Go.Proofs.YtnlogppdnfhelaaDoor
