/- The law GaugeBelows. -/
import Derived.Test.YtdhhnnbcmddcaaaDoorZb
import Derived.Test.YtdhhnnbcmddcaaaDoorZe
import Derived.Test.YtdhhnnbcmddcaaaDoorGq
namespace Go.Proofs.YtdhhnnbcmddcaaaDoor
open Go.RowKit
set_option linter.unusedVariables false
set_option linter.unusedSimpArgs false

set_option maxHeartbeats 4000000 in
set_option maxRecDepth 100000 in
theorem belows_x (x : Int × Int) (hx : numB x.1 x.2 = false) (w : World) :
    Calls Tryd.prog 3 #[.agg (gv x)] w fun e w' => e = .returned (.bool true) ∧ Keeps w w' := by
  have aw := fun z => awake_c z
  have c1 := fun z => Below_x x hx z
  have c2 := fun z => refNumber_v x z
  rw [hx] at c2
  obtain ⟨W, hW⟩ : ∃ W, w.alloc (.cells #[.int .i64 x.1, .int .i64 x.2] 23) = W := ⟨_, rfl⟩
  have a0 : At W w.heap.size 23 (gv x) := by rw [← hW]; exact At.new w _ _
  have k0 : Keeps w W := by rw [← hW]; exact Keeps.alloc (Below.refl _ _) _
  have HW := Lib.hid hW
  clear hW hx
  change Calls Tryd.prog 3 #[.agg #[.int .i64 x.1, .int .i64 x.2]] w _
  go_enter Tryd.func3, Tryd.ntmps3
  go_upto_region 1 with fail
  rw [HW.out]
  clear HW
  go_wp2_with (first
    | (refine load_row_w rfl 23 _ rfl _ rfl 23 _ _ _ a0 Tryd.underlying23 rfl (sizeV _) ?_)
    | (refine load_row_w rfl 23 _ rfl _ rfl 23 _ _ _ a1 Tryd.underlying23 rfl (sizeV _) ?_)
    | (refine load_row_w rfl 23 _ rfl _ rfl 23 _ _ _ a2 Tryd.underlying23 rfl (sizeV _) ?_)
    | (refine load_row_w rfl 23 _ rfl _ rfl 23 _ _ _ a3 Tryd.underlying23 rfl (sizeV _) ?_)
    | (go_at_call 8
       (with_reducible refine (c1 _).mono ?_)
       rintro e w1 ⟨rfl, b1⟩
       have a1 := a0.later b1
       have k1 := Keeps.next k0 b1
       clear c1 a0 k0)
    | (go_at_call 9
       (with_reducible refine (c2 _).mono ?_)
       rintro e w2 ⟨rfl, b2⟩
       have a2 := a1.later b2
       have k2 := Keeps.next k1 b2
       clear c2 a1 k1)
    | (go_at_call 12
       (with_reducible refine (aw _).mono ?_)
       rintro e w3 ⟨rfl, b3⟩
       have a3 := a2.later b3
       have k3 := Keeps.next k2 b3
       clear aw a2 k2))
  go_ret
  exact ⟨rfl, k3⟩
set_option maxHeartbeats 4000000 in
set_option maxRecDepth 100000 in
theorem belows_y (x : Int × Int) (hx : numB x.1 x.2 = true) (hm : ¬ nn (minusG (1000000, 0) x)) (w : World) :
    Calls Tryd.prog 3 #[.agg (gv x)] w fun e w' => e = .returned (.bool true) ∧ Keeps w w' := by
  have aw := fun z => awake_c z
  have c1 := fun z => Below_y x hx hm z
  have sx := sm2_of hx
  have c2 := fun z => refNumber_v x z
  rw [hx] at c2
  have c3 : ∀ z, Calls Tryd.prog 11 #[.agg (gv x), .agg #[.int .i64 1000000, .int .i64 0]] z fun e w' => e = .returned (.agg (gv (minusG x (1000000, 0)))) ∧ Keeps z w' := fun z => refMinus_v x (1000000, 0) (sm2_mono sx (by decide)) (by unfold sm2 sm; simp) z
  have c4 := fun z => refSign_v (minusG x (1000000, 0)) (by unfold sm2 sm minusG at *; simp only; omega) z
  have hpo : po (minusG x (1000000, 0)) := not_nn hm (by simp only [minusG]; omega) (by simp only [minusG]; omega)
  have hd : decide (0 < sgn (minusG x (1000000, 0)).1 (minusG x (1000000, 0)).2) = true := decide_eq_true hpo
  clear hx hm sx hpo
  generalize minusG x (1000000, 0) = d at *
  generalize sgn d.1 d.2 = sg at *
  obtain ⟨W, hW⟩ : ∃ W, w.alloc (.cells #[.int .i64 x.1, .int .i64 x.2] 23) = W := ⟨_, rfl⟩
  have a0 : At W w.heap.size 23 (gv x) := by rw [← hW]; exact At.new w _ _
  have k0 : Keeps w W := by rw [← hW]; exact Keeps.alloc (Below.refl _ _) _
  have HW := Lib.hid hW
  clear hW
  change Calls Tryd.prog 3 #[.agg #[.int .i64 x.1, .int .i64 x.2]] w _
  go_enter Tryd.func3, Tryd.ntmps3
  go_upto_region 1 with fail
  rw [HW.out]
  clear HW
  go_wp2_with (first
    | (refine load_row_w rfl 23 _ rfl _ rfl 23 _ _ _ a0 Tryd.underlying23 rfl (sizeV _) ?_)
    | (refine load_row_w rfl 23 _ rfl _ rfl 23 _ _ _ a1 Tryd.underlying23 rfl (sizeV _) ?_)
    | (refine load_row_w rfl 23 _ rfl _ rfl 23 _ _ _ a2 Tryd.underlying23 rfl (sizeV _) ?_)
    | (refine load_row_w rfl 23 _ rfl _ rfl 23 _ _ _ a3 Tryd.underlying23 rfl (sizeV _) ?_)
    | (refine load_row_w rfl 23 _ rfl _ rfl 23 _ _ _ a4 Tryd.underlying23 rfl (sizeV _) ?_)
    | (refine load_row_w rfl 23 _ rfl _ rfl 23 _ _ _ a5 Tryd.underlying23 rfl (sizeV _) ?_)
    | (go_at_call 8
       (with_reducible refine (c1 _).mono ?_)
       rintro e w1 ⟨rfl, b1⟩
       have a1 := a0.later b1
       have k1 := Keeps.next k0 b1
       clear c1 a0 k0)
    | (go_at_call 9
       (with_reducible refine (c2 _).mono ?_)
       rintro e w2 ⟨rfl, b2⟩
       have a2 := a1.later b2
       have k2 := Keeps.next k1 b2
       clear c2 a1 k1)
    | (go_at_call 11
       (with_reducible refine (c3 _).mono ?_)
       rintro e w3 ⟨rfl, b3⟩
       have a3 := a2.later b3
       have k3 := Keeps.next k2 b3
       clear c3 a2 k2)
    | (go_at_call 10
       (with_reducible refine (c4 _).mono ?_)
       rintro e w4 ⟨rfl, b4⟩
       have a4 := a3.later b4
       have k4 := Keeps.next k3 b4
       clear c4 a3 k3)
    | (go_at_call 12
       (with_reducible refine (aw _).mono ?_)
       rintro e w5 ⟨rfl, b5⟩
       have a5 := a4.later b5
       have k5 := Keeps.next k4 b5
       clear aw a4 k4))
  go_ret
  exact ⟨rfl, k5⟩
set_option maxHeartbeats 4000000 in
set_option maxRecDepth 100000 in
theorem belows_z (x : Int × Int) (hx : numB x.1 x.2 = true) (hm : nn (minusG (1000000, 0) x)) (w : World) :
    Calls Tryd.prog 3 #[.agg (gv x)] w fun e w' => e = .returned (.bool true) ∧ Keeps w w' := by
  have aw := fun z => awake_c z
  have c1 := fun z => Below_z x hx hm z
  have sx := sm2_of hx
  have c2 := fun z => refNumber_v x z
  rw [hx] at c2
  have c3 : ∀ z, Calls Tryd.prog 11 #[.agg (gv x), .agg #[.int .i64 1000000, .int .i64 0]] z fun e w' => e = .returned (.agg (gv (minusG x (1000000, 0)))) ∧ Keeps z w' := fun z => refMinus_v x (1000000, 0) (sm2_mono sx (by decide)) (by unfold sm2 sm; simp) z
  have c4 := fun z => refSign_v (minusG x (1000000, 0)) (by unfold sm2 sm minusG at *; simp only; omega) z
  have hd : decide (0 < sgn (minusG x (1000000, 0)).1 (minusG x (1000000, 0)).2) = false := decide_eq_false (nn_not hm (by simp only [minusG]; omega) (by simp only [minusG]; omega))
  have c5 : ∀ z, Calls Tryd.prog 13 #[.agg (gv x)] z fun e w' => e = .returned (.int .i64 (blw (partsL x))) ∧ Keeps z w' := fun z => by
    by_cases hp : po x
    · exact refBelow_yes x hx hp hm _ (blw_place x sx hp hm) z
    · rw [blw_zero x hp]; exact refBelow_no x hx hp z
  clear hx hm sx
  generalize blw (partsL x) = B at *
  generalize minusG x (1000000, 0) = d at *
  generalize sgn d.1 d.2 = sg at *
  obtain ⟨W, hW⟩ : ∃ W, w.alloc (.cells #[.int .i64 x.1, .int .i64 x.2] 23) = W := ⟨_, rfl⟩
  have a0 : At W w.heap.size 23 (gv x) := by rw [← hW]; exact At.new w _ _
  have k0 : Keeps w W := by rw [← hW]; exact Keeps.alloc (Below.refl _ _) _
  have HW := Lib.hid hW
  clear hW
  change Calls Tryd.prog 3 #[.agg #[.int .i64 x.1, .int .i64 x.2]] w _
  go_enter Tryd.func3, Tryd.ntmps3
  go_upto_region 1 with fail
  rw [HW.out]
  clear HW
  go_wp2_with (first
    | (refine load_row_w rfl 23 _ rfl _ rfl 23 _ _ _ a0 Tryd.underlying23 rfl (sizeV _) ?_)
    | (refine load_row_w rfl 23 _ rfl _ rfl 23 _ _ _ a1 Tryd.underlying23 rfl (sizeV _) ?_)
    | (refine load_row_w rfl 23 _ rfl _ rfl 23 _ _ _ a2 Tryd.underlying23 rfl (sizeV _) ?_)
    | (refine load_row_w rfl 23 _ rfl _ rfl 23 _ _ _ a3 Tryd.underlying23 rfl (sizeV _) ?_)
    | (refine load_row_w rfl 23 _ rfl _ rfl 23 _ _ _ a4 Tryd.underlying23 rfl (sizeV _) ?_)
    | (refine load_row_w rfl 23 _ rfl _ rfl 23 _ _ _ a5 Tryd.underlying23 rfl (sizeV _) ?_)
    | (refine load_row_w rfl 23 _ rfl _ rfl 23 _ _ _ a6 Tryd.underlying23 rfl (sizeV _) ?_)
    | (go_at_call 8
       (with_reducible refine (c1 _).mono ?_)
       rintro e w1 ⟨rfl, b1⟩
       have a1 := a0.later b1
       have k1 := Keeps.next k0 b1
       clear c1 a0 k0)
    | (go_at_call 9
       (with_reducible refine (c2 _).mono ?_)
       rintro e w2 ⟨rfl, b2⟩
       have a2 := a1.later b2
       have k2 := Keeps.next k1 b2
       clear c2 a1 k1)
    | (go_at_call 11
       (with_reducible refine (c3 _).mono ?_)
       rintro e w3 ⟨rfl, b3⟩
       have a3 := a2.later b3
       have k3 := Keeps.next k2 b3
       clear c3 a2 k2)
    | (go_at_call 10
       (with_reducible refine (c4 _).mono ?_)
       rintro e w4 ⟨rfl, b4⟩
       have a4 := a3.later b4
       have k4 := Keeps.next k3 b4
       clear c4 a3 k3)
    | (go_at_call 13
       (with_reducible refine (c5 _).mono ?_)
       rintro e w5 ⟨rfl, b5⟩
       have a5 := a4.later b5
       have k5 := Keeps.next k4 b5
       clear c5 a4 k4)
    | (go_at_call 12
       (with_reducible refine (aw _).mono ?_)
       rintro e w6 ⟨rfl, b6⟩
       have a6 := a5.later b6
       have k6 := Keeps.next k5 b6
       clear aw a5 k5))
  go_ret
  exact ⟨rfl, k6⟩
theorem law_belows (a b : Int) (w : World) :
    Calls Tryd.prog 3 #[.agg #[.int .i64 a, .int .i64 b]] w fun e w' => e = .returned (.bool true) ∧ Keeps w w' := by
  by_cases hm : nn (minusG (1000000, 0) (a, b))
  · cases hx : numB a b
    · exact belows_x (a, b) hx w
    · exact belows_z (a, b) hx hm w
  · cases hx : numB a b
    · exact belows_x (a, b) hx w
    · exact belows_y (a, b) hx hm w
end Go.Proofs.YtdhhnnbcmddcaaaDoor
