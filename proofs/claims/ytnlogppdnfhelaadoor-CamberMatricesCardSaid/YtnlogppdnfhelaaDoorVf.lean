/- The law of Matrices. -/
import Derived.Test.YtnlogppdnfhelaaDoorVe
namespace Go.Proofs.YtnlogppdnfhelaaDoor
open Go.RowKit
set_option linter.unusedVariables false
set_option linter.unusedSimpArgs false

set_option maxRecDepth 100000 in
theorem eq4_same (m : Mx) (w : World) : (Op.equalIn 10000 47 (.agg #[.int .i64 m.1, .int .i64 m.2.1, .int .i64 m.2.2.1, .int .i64 m.2.2.2]) (.agg #[.int .i64 m.1, .int .i64 m.2.1, .int .i64 m.2.2.1, .int .i64 m.2.2.2])).run Tryd.prog w = .ok true w := by
  obtain ⟨a, b, c, d⟩ := m
  obtain ⟨i0, hi, -⟩ := info_parts infoI
  have h0 : ∀ (n : Nat) (x : Int), (Op.equalIn (n + 1) 3 (.int .i64 x) (.int .i64 x)).run Tryd.prog w = .ok true w := fun n x => by simp [Op.equalIn, go_sem]
  have h1 : ∀ x : Int, (Op.equalIn 9999 3 (.int .i64 x) (.int .i64 x)).run Tryd.prog w = .ok true w := fun x => h0 9998 x
  clear h0
  have hp : Tryd.prog.cellsOf 3 = 1 := by kernel_rfl
  have q0 : (part 3 #[Value.int .i64 a, .int .i64 b, .int .i64 c, .int .i64 d] 0).run Tryd.prog w = .ok (.int .i64 a) w := by kernel_rfl
  have q1 : (part 3 #[Value.int .i64 a, .int .i64 b, .int .i64 c, .int .i64 d] 1).run Tryd.prog w = .ok (.int .i64 b) w := by kernel_rfl
  have q2 : (part 3 #[Value.int .i64 a, .int .i64 b, .int .i64 c, .int .i64 d] 2).run Tryd.prog w = .ok (.int .i64 c) w := by kernel_rfl
  have q3 : (part 3 #[Value.int .i64 a, .int .i64 b, .int .i64 c, .int .i64 d] 3).run Tryd.prog w = .ok (.int .i64 d) w := by kernel_rfl
  refine (run_equalIn_array (P := Tryd.prog) w 9999 #[.int .i64 a, .int .i64 b, .int .i64 c, .int .i64 d] #[.int .i64 a, .int .i64 b, .int .i64 c, .int .i64 d] Tryd.underlying47 hi).trans ?_
  rw [hp]
  generalize 9999 = n at *
  simp [Op.eqItems, List.range_succ, Sem.run_bind, q0, q1, q2, q3, h1, Result.andThen]
set_option maxHeartbeats 4000000 in
set_option maxRecDepth 20000 in
theorem law_matrices (s0 : ByteArray) (w : World) (hs0 : s0.size ≤ maxLen) : Calls Tryd.prog 8 #[.string s0] w fun e w' => e = .returned (.bool true) ∧ Keeps w w' := by
  have cB := fun W => brief_c s0 hs0 W
  have hsz := brf_size s0
  generalize brf s0 = s at *
  have cA := fun W => awake_c W
  have cP := fun W => refIsWord_c s (by omega) W
  cases hp : phraseB s
  · rw [hp] at cP
    have cM := fun W => Matrix_no s (by unfold maxLen; omega) hp W
    simp only [mv] at cM
    have em := eq4_same (0, 0, 0, 0)
    simp only at em
    clear hp hsz hs0
    go_enter Tryd.func8, Tryd.ntmps8
    go_wp2_with (first
      | (go_at_call 20; refine (cB _).mono ?_; rintro e w1 ⟨rfl, rfl⟩)
      | (go_at_call 24; refine (cM _).mono ?_; rintro e w2 ⟨rfl, h2⟩; have hX := At.new w2 47 #[.int .i64 0, .int .i64 0, .int .i64 0, .int .i64 0]; have k2 := Keeps.alloc h2 (.cells #[.int .i64 0, .int .i64 0, .int .i64 0, .int .i64 0] 47))
      | (go_at_call 25; refine (cP _).mono ?_; rintro e w3 ⟨rfl, h3⟩; have hX3 := hX.later h3; have p1 := (row_mv (m := (0, 0, 0, 0)) hX3).1; have p2 := (row_mv (m := (0, 0, 0, 0)) hX3).2.1; have p3 := (row_mv (m := (0, 0, 0, 0)) hX3).2.2.1; have p4 := (row_mv (m := (0, 0, 0, 0)) hX3).2.2.2; have k3 := Keeps.next k2 h3)
      | (go_at_call 11; refine (cA _).mono ?_; rintro e w4 ⟨rfl, h4⟩; have k4 := Keeps.next k3 h4))
    go_ret
    exact ⟨rfl, k4⟩
  · rw [hp] at cP
    have hw : (s.data.toList.all fun c => [97, 98].contains c) = true := by
      unfold phraseB at hp; rw [Bool.and_eq_true] at hp; exact hp.2
    have cM := fun W => Matrix_c s hp W
    have cR := fun W => refMatrix_c s (by omega) hw W
    cases hm : matF (1, 0, 0, 1) s.data.toList with
    | none =>
      rw [hm] at cM cR
      simp only [MatR, MatS, mv] at cM cR
      have em := eq4_same (0, 0, 0, 0)
      simp only at em
      clear hp hsz hs0 hw hm
      go_enter Tryd.func8, Tryd.ntmps8
      go_wp2_with (first
        | (go_at_call 20; refine (cB _).mono ?_; rintro e w1 ⟨rfl, rfl⟩)
        | (go_at_call 24; refine (cM _).mono ?_; rintro e w2 ⟨rfl, h2⟩; have hX := At.new w2 47 #[.int .i64 0, .int .i64 0, .int .i64 0, .int .i64 0]; have k2 := Keeps.alloc h2 (.cells #[.int .i64 0, .int .i64 0, .int .i64 0, .int .i64 0] 47))
        | (go_at_call 25; refine (cP _).mono ?_; rintro e w3 ⟨rfl, h3⟩; have hX3 := hX.later h3; have k3 := Keeps.next k2 h3)
        | (go_at_call 26; refine (cR _).mono ?_; rintro e w5 ⟨rfl, h5⟩; have hX5 := (hX3.later h5).alloc (.cells #[.int .i64 0, .int .i64 0, .int .i64 0, .int .i64 0] 47); have k5 := Keeps.alloc (Keeps.next k3 h5) (.cells #[.int .i64 0, .int .i64 0, .int .i64 0, .int .i64 0] 47); have p1 := (row_mv (m := (0, 0, 0, 0)) hX5).1; have p2 := (row_mv (m := (0, 0, 0, 0)) hX5).2.1; have p3 := (row_mv (m := (0, 0, 0, 0)) hX5).2.2.1; have p4 := (row_mv (m := (0, 0, 0, 0)) hX5).2.2.2)
        | (go_at_call 11; refine (cA _).mono ?_; rintro e w4 ⟨rfl, h4⟩; have k4 := Keeps.next k5 h4))
      go_ret
      exact ⟨rfl, k4⟩
    | some m =>
      rw [hm] at cM cR
      obtain ⟨m1, m2, m3, m4⟩ := m
      simp only [MatR, MatS, mv] at cM cR
      have em := eq4_same (m1, m2, m3, m4)
      simp only at em
      clear hp hsz hs0 hw hm
      go_enter Tryd.func8, Tryd.ntmps8
      go_wp2_with (first
        | (go_at_call 20; refine (cB _).mono ?_; rintro e w1 ⟨rfl, rfl⟩)
        | (go_at_call 24; refine (cM _).mono ?_; rintro e w2 ⟨rfl, h2⟩; have hX := At.new w2 47 #[.int .i64 m1, .int .i64 m2, .int .i64 m3, .int .i64 m4]; have k2 := Keeps.alloc h2 (.cells #[.int .i64 m1, .int .i64 m2, .int .i64 m3, .int .i64 m4] 47))
        | (go_at_call 25; refine (cP _).mono ?_; rintro e w3 ⟨rfl, h3⟩; have hX3 := hX.later h3; have k3 := Keeps.next k2 h3)
        | (go_at_call 26; refine (cR _).mono ?_; rintro e w5 ⟨rfl, h5⟩; have hX5 := (hX3.later h5).alloc (.cells #[.int .i64 m1, .int .i64 m2, .int .i64 m3, .int .i64 m4] 47); have hX6 := At.new w5 47 #[.int .i64 m1, .int .i64 m2, .int .i64 m3, .int .i64 m4]; have k5 := Keeps.alloc (Keeps.next k3 h5) (.cells #[.int .i64 m1, .int .i64 m2, .int .i64 m3, .int .i64 m4] 47); have p1 := (row_mv (m := (m1, m2, m3, m4)) hX5).1; have p2 := (row_mv (m := (m1, m2, m3, m4)) hX5).2.1; have p3 := (row_mv (m := (m1, m2, m3, m4)) hX5).2.2.1; have p4 := (row_mv (m := (m1, m2, m3, m4)) hX5).2.2.2; have x1 := (row_mv (m := (m1, m2, m3, m4)) hX6).1; have x2 := (row_mv (m := (m1, m2, m3, m4)) hX6).2.1; have x3 := (row_mv (m := (m1, m2, m3, m4)) hX6).2.2.1; have x4 := (row_mv (m := (m1, m2, m3, m4)) hX6).2.2.2)
        | (go_at_call 11; refine (cA _).mono ?_; rintro e w4 ⟨rfl, h4⟩; have k4 := Keeps.next k5 h4))
      go_ret
      exact ⟨rfl, k4⟩
end Go.Proofs.YtnlogppdnfhelaaDoor
