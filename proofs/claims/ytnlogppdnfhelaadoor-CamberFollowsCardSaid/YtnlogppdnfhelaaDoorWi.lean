/- The law of Follows. -/
import Derived.Test.YtnlogppdnfhelaaDoorWh
import Derived.Test.YtnlogppdnfhelaaDoorVh
namespace Go.Proofs.YtnlogppdnfhelaaDoor
open Go.RowKit
set_option linter.unusedVariables false
set_option linter.unusedSimpArgs false

set_option maxHeartbeats 4000000 in
set_option maxRecDepth 20000 in
theorem law_follows (s0 : ByteArray) (w : World) (hs0 : s0.size ≤ maxLen) : Calls Tryd.prog 7 #[.string s0] w fun e w' => e = .returned (.bool true) ∧ Keeps w w' := by
  have cB := fun W => brief_c s0 hs0 W
  have hsz := brf_size s0
  generalize brf s0 = s at *
  have cA := fun W => awake_c W
  have cP := fun W => refIsPath_c s (by omega) W
  cases hp : pathB s
  · rw [hp] at cP
    have cM := fun W => Follow_no s (by unfold maxLen; omega) hp W
    have em := eq3_self 0 0 0
    clear hp hsz hs0
    go_enter Tryd.func7, Tryd.ntmps7
    go_wp2_with (first
      | (go_at_call 20; refine (cB _).mono ?_; rintro e w1 ⟨rfl, rfl⟩)
      | (go_at_call 21; refine (cM _).mono ?_; rintro e w2 ⟨rfl, h2⟩; have hX := At.new w2 22 #[.int .i64 0, .int .i64 0, .int .i64 0]; have k2 := Keeps.alloc h2 (.cells #[.int .i64 0, .int .i64 0, .int .i64 0] 22))
      | (go_at_call 22; refine (cP _).mono ?_; rintro e w3 ⟨rfl, h3⟩; have hX3 := hX.later h3; have k5 := Keeps.next k2 h3; have p1 := (row_six hX3).1; have p2 := (row_six hX3).2.1; have p3 := (row_six hX3).2.2.1)
      | (go_at_call 11; refine (cA _).mono ?_; rintro e w4 ⟨rfl, h4⟩; have k4 := Keeps.next k5 h4))
    go_ret
    exact ⟨rfl, k4⟩
  · rw [hp] at cP
    have hw : (s.data.toList.all fun c => [76, 82].contains c) = true := by
      unfold pathB at hp; rw [Bool.and_eq_true] at hp; exact hp.2
    have cM := fun W => Follow_c s hp W
    have cR := fun W => refFollow_c s (by omega) hw W
    cases hm : folF (1, 2, 5) s.data.toList with
    | none =>
      rw [hm] at cM cR
      simp only [FolR, FolS] at cM cR
      have em := eq3_self 0 0 0
      clear hp hsz hs0 hw hm
      go_enter Tryd.func7, Tryd.ntmps7
      go_wp2_with (first
        | (go_at_call 20; refine (cB _).mono ?_; rintro e w1 ⟨rfl, rfl⟩)
        | (go_at_call 21; refine (cM _).mono ?_; rintro e w2 ⟨rfl, h2⟩; have hX := At.new w2 22 #[.int .i64 0, .int .i64 0, .int .i64 0]; have k2 := Keeps.alloc h2 (.cells #[.int .i64 0, .int .i64 0, .int .i64 0] 22))
        | (go_at_call 22; refine (cP _).mono ?_; rintro e w3 ⟨rfl, h3⟩; have hX3 := hX.later h3; have k5 := Keeps.next k2 h3; have p1 := (row_six hX3).1; have p2 := (row_six hX3).2.1; have p3 := (row_six hX3).2.2.1)
        | (go_at_call 23; refine (cR _).mono ?_; rintro e w5 ⟨rfl, h5⟩; have hX5 := (hX3.later h5).alloc (.cells #[.int .i64 0, .int .i64 0, .int .i64 0] 22); have hR5 := At.new w5 22 #[.int .i64 0, .int .i64 0, .int .i64 0]; have k5 := Keeps.alloc (Keeps.next k5 h5) (.cells #[.int .i64 0, .int .i64 0, .int .i64 0] 22); have p1 := (row_six hX5).1; have p2 := (row_six hX5).2.1; have p3 := (row_six hX5).2.2.1; have q1 := (row_six hR5).1; have q2 := (row_six hR5).2.1; have q3 := (row_six hR5).2.2.1)
        | (go_at_call 11; refine (cA _).mono ?_; rintro e w4 ⟨rfl, h4⟩; have k4 := Keeps.next k5 h4))
      go_ret
      exact ⟨rfl, k4⟩
    | some m =>
      rw [hm] at cM cR
      obtain ⟨o1, o2, o3⟩ := m
      simp only [FolR, FolS] at cM cR
      have em := eq3_self o1 o2 o3
      clear hp hsz hs0 hw hm
      go_enter Tryd.func7, Tryd.ntmps7
      go_wp2_with (first
        | (go_at_call 20; refine (cB _).mono ?_; rintro e w1 ⟨rfl, rfl⟩)
        | (go_at_call 21; refine (cM _).mono ?_; rintro e w2 ⟨rfl, h2⟩; have hX := At.new w2 22 #[.int .i64 o1, .int .i64 o2, .int .i64 o3]; have k2 := Keeps.alloc h2 (.cells #[.int .i64 o1, .int .i64 o2, .int .i64 o3] 22))
        | (go_at_call 22; refine (cP _).mono ?_; rintro e w3 ⟨rfl, h3⟩; have hX3 := hX.later h3; have k5 := Keeps.next k2 h3; have p1 := (row_six hX3).1; have p2 := (row_six hX3).2.1; have p3 := (row_six hX3).2.2.1)
        | (go_at_call 23; refine (cR _).mono ?_; rintro e w5 ⟨rfl, h5⟩; have hX5 := (hX3.later h5).alloc (.cells #[.int .i64 o1, .int .i64 o2, .int .i64 o3] 22); have hR5 := At.new w5 22 #[.int .i64 o1, .int .i64 o2, .int .i64 o3]; have k5 := Keeps.alloc (Keeps.next k5 h5) (.cells #[.int .i64 o1, .int .i64 o2, .int .i64 o3] 22); have p1 := (row_six hX5).1; have p2 := (row_six hX5).2.1; have p3 := (row_six hX5).2.2.1; have q1 := (row_six hR5).1; have q2 := (row_six hR5).2.1; have q3 := (row_six hR5).2.2.1)
        | (go_at_call 11; refine (cA _).mono ?_; rintro e w4 ⟨rfl, h4⟩; have k4 := Keeps.next k5 h4))
      go_ret
      exact ⟨rfl, k4⟩
end Go.Proofs.YtnlogppdnfhelaaDoor
