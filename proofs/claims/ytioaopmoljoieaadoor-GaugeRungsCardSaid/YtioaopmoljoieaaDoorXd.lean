/- The law GaugeRungs. -/
import Derived.Test.YtioaopmoljoieaaDoorXc
import Derived.Test.YtioaopmoljoieaaDoorGf
namespace Go.Proofs.YtioaopmoljoieaaDoor
open Go.RowKit
set_option linter.unusedVariables false
set_option linter.unusedSimpArgs false

set_option maxHeartbeats 4000000 in
set_option maxRecDepth 100000 in
theorem rungs_in_in (k n : Int) (h0 : 0 ≤ k) (h1 : k ≤ 100000) (hn : gapCode n = true) (w : World) :
    Calls Tryd.prog 3 #[.int .i64 k, .int .i64 n] w fun e w' => e = .returned (.bool true) ∧ Keeps w w' := by
  have aw := fun z => awake_c z
  have c1 := fun z => Rung_yes k h0 h1 z
  have c3 := fun z => refRung_c k h0 h1 z
  have d1 : decide (k < 0) = false := by simpa using h0
  have d2 : decide (100000 < k) = false := by simpa using h1
  clear h0 h1
  generalize rungG k = v at *
  have hn2 : 0 ≤ n ∧ n ≤ 1000 := by unfold gapCode at hn; simpa using hn
  obtain ⟨m, rfl⟩ := Int.eq_ofNat_of_zero_le hn2.1
  have c2 := fun z => gaps_yes m (by omega) z
  have c4 := fun z => refGaps_c m (by omega) z
  have d3 : decide ((m : Int) < 0) = false := by simp
  have d4 : decide ((1000 : Int) < m) = false := by simp; omega
  clear hn hn2
  generalize (⟨(gapsL m).toArray⟩ : ByteArray) = S at *
  go_enter Tryd.func3, Tryd.ntmps3
  have k0 : Keeps w w := Below.refl _ _
  go_upto_region 3 with (first
    | (go_at_call 7
       (with_reducible refine (c1 _).mono ?_)
       rintro e w1 ⟨rfl, bl1⟩
       have rw1 := At.new w1 23 (gv (0, 0))
       have x1 := rw1.row (gv v)
       have dw1 := below_row (Keeps.alloc bl1 (.cells (gv (0, 0)) 23)) bl1.size (gv v)
       have k1 := Keeps.next k0 dw1
       clear c1 )
    | (refine wpList_store_row rfl 23 _ _ rfl _ (gv v) rfl rfl 23 (gv (0, 0)) rw1 (sizeV _) rfl (oneV _) ?_)
    | (go_at_call 8
       (with_reducible refine (c2 _).mono ?_)
       rintro e w2 ⟨rfl, b2⟩
       have x2 := x1.later b2
       have k2 := Keeps.next k1 b2
       clear c2))
  go_upto_region 6 with (fail)
  refine region_any_inv (G := Unit) (f := ?f) (fun _ => [.agg #[.int .i64 v.1, .int .i64 v.2], .int .i64 k, .agg #[.int .i64 v.1, .int .i64 v.2], .bool false, .bool false, .int .i64 0, .bool false, .bool false])
    (fun _ L w' => Keeps w w' ∧ At w' w1.heap.size 23 (gv v)) () (fun _ => ?hf) (by kernel_rfl) (by kernel_rfl) ⟨Keeps.dr k2, x2.drew⟩ ?steps ?fin
  case hf =>
    simp only [fill, List.toList_toArray, List.zip_cons_cons, List.zip_nil_left, List.zip_nil_right, List.foldl_cons, List.foldl_nil, Act.put, List.setIfInBounds_toArray, List.set_cons_succ, List.set_cons_zero]
    exact rfl
  case steps =>
    refine StepsU.cons rfl (fun g L w' hL hr hc hF => ?_) ?_
    · obtain ⟨k3, x3⟩ := hF
      obtain ⟨p1, p2, p3, p4⟩ := row_four x3
      refine StepU.go rfl (fun K hK => ?_)
      go_simp
      exact hK () _ ⟨k3, x3⟩
    refine StepsU.cons rfl (fun g L w' hL hr hc hF => ?_) ?_
    · obtain ⟨k3, x3⟩ := hF
      obtain ⟨p1, p2, p3, p4⟩ := row_four x3
      refine StepU.go rfl (fun K hK => ?_)
      go_simp
      exact hK () _ ⟨k3, x3⟩
    refine StepsU.cons rfl (fun g L w' hL hr hc hF => ?_) ?_
    · obtain ⟨k3, x3⟩ := hF
      refine StepU.go rfl (fun K hK => ?_)
      go_simp
      refine (c3 _).mono ?_
      rintro e w4 ⟨rfl, b4⟩
      exact hK () _ ⟨Keeps.next k3 b4, x3.later b4⟩
    refine StepsU.cons rfl (fun g L w' hL hr hc hF => ?_) ?_
    · obtain ⟨k3, x3⟩ := hF
      obtain ⟨p1, p2, p3, p4⟩ := row_four x3
      refine StepU.go rfl (fun K hK => ?_)
      go_simp
      exact hK () _ ⟨k3, x3⟩
    refine StepsU.cons rfl (fun g L w' hL hr hc hF => ?_) ?_
    · obtain ⟨k3, x3⟩ := hF
      obtain ⟨p1, p2, p3, p4⟩ := row_four x3
      refine StepU.go rfl (fun K hK => ?_)
      go_simp
      exact hK () _ ⟨k3, x3⟩
    refine StepsU.cons rfl (fun g L w' hL hr hc hF => ?_) ?_
    · obtain ⟨k3, x3⟩ := hF
      obtain ⟨p1, p2, p3, p4⟩ := row_four x3
      refine StepU.go rfl (fun K hK => ?_)
      go_simp
      exact hK () _ ⟨k3, x3⟩
    refine StepsU.cons rfl (fun g L w' hL hr hc hF => ?_) ?_
    · obtain ⟨k3, x3⟩ := hF
      obtain ⟨p1, p2, p3, p4⟩ := row_four x3
      refine StepU.go rfl (fun K hK => ?_)
      go_simp
      exact hK () _ ⟨k3, x3⟩
    refine StepsU.cons rfl (fun g L w' hL hr hc hF => ?_) ?_
    · obtain ⟨k3, x3⟩ := hF
      obtain ⟨p1, p2, p3, p4⟩ := row_four x3
      refine StepU.go rfl (fun K hK => ?_)
      go_simp
      exact hK () _ ⟨k3, x3⟩
    exact StepsU.nil (by simp)
  case fin =>
  intro g L w3 hall hF
  obtain ⟨k3, x3⟩ := hF
  clear hall
  go_wp2_with (first
    | (go_at_call 11; (with_reducible refine (c4 _).mono ?_); rintro e w5 ⟨rfl, b5⟩; have k5 := Keeps.next k3 b5)
    | (go_at_call 10; refine (aw _).mono ?_; rintro e w9 ⟨rfl, b9⟩; have k9 := Keeps.next k5 b9))
  go_ret
  exact ⟨rfl, k9⟩
set_option maxHeartbeats 4000000 in
set_option maxRecDepth 100000 in
theorem rungs_in_out (k n : Int) (h0 : 0 ≤ k) (h1 : k ≤ 100000) (hn : gapCode n = false) (w : World) :
    Calls Tryd.prog 3 #[.int .i64 k, .int .i64 n] w fun e w' => e = .returned (.bool true) ∧ Keeps w w' := by
  have aw := fun z => awake_c z
  have c1 := fun z => Rung_yes k h0 h1 z
  have c3 := fun z => refRung_c k h0 h1 z
  have d1 : decide (k < 0) = false := by simpa using h0
  have d2 : decide (100000 < k) = false := by simpa using h1
  clear h0 h1
  generalize rungG k = v at *
  have c2 := fun z => gaps_no n hn z
  have hd2 : decide (n < 0) = true ∨ (decide (n < 0) = false ∧ decide (1000 < n) = true) := by
    unfold gapCode at hn
    simp only [decide_eq_true_eq, decide_eq_false_iff_not]
    simp only [Bool.and_eq_false_iff, decide_eq_false_iff_not] at hn
    omega
  have HD2 := Lib.hid hd2
  clear hn hd2
  go_enter Tryd.func3, Tryd.ntmps3
  have k0 : Keeps w w := Below.refl _ _
  go_upto_region 3 with (first
    | (go_at_call 7
       (with_reducible refine (c1 _).mono ?_)
       rintro e w1 ⟨rfl, bl1⟩
       have rw1 := At.new w1 23 (gv (0, 0))
       have x1 := rw1.row (gv v)
       have dw1 := below_row (Keeps.alloc bl1 (.cells (gv (0, 0)) 23)) bl1.size (gv v)
       have k1 := Keeps.next k0 dw1
       clear c1 )
    | (refine wpList_store_row rfl 23 _ _ rfl _ (gv v) rfl rfl 23 (gv (0, 0)) rw1 (sizeV _) rfl (oneV _) ?_)
    | (go_at_call 8
       (with_reducible refine (c2 _).mono ?_)
       rintro e w2 ⟨rfl, rfl⟩
       have x2 := x1
       have k2 := k1
       clear c2))
  go_upto_region 6 with (fail)
  refine region_any_inv (G := Unit) (f := ?f) (fun _ => [.agg #[.int .i64 v.1, .int .i64 v.2], .int .i64 k, .agg #[.int .i64 v.1, .int .i64 v.2], .bool false, .bool false, .int .i64 0, .bool false, .bool false])
    (fun _ L w' => Keeps w w' ∧ At w' w1.heap.size 23 (gv v)) () (fun _ => ?hf) (by kernel_rfl) (by kernel_rfl) ⟨Keeps.dr k2, x2.drew⟩ ?steps ?fin
  case hf =>
    simp only [fill, List.toList_toArray, List.zip_cons_cons, List.zip_nil_left, List.zip_nil_right, List.foldl_cons, List.foldl_nil, Act.put, List.setIfInBounds_toArray, List.set_cons_succ, List.set_cons_zero]
    exact rfl
  case steps =>
    refine StepsU.cons rfl (fun g L w' hL hr hc hF => ?_) ?_
    · obtain ⟨k3, x3⟩ := hF
      obtain ⟨p1, p2, p3, p4⟩ := row_four x3
      refine StepU.go rfl (fun K hK => ?_)
      go_simp
      exact hK () _ ⟨k3, x3⟩
    refine StepsU.cons rfl (fun g L w' hL hr hc hF => ?_) ?_
    · obtain ⟨k3, x3⟩ := hF
      obtain ⟨p1, p2, p3, p4⟩ := row_four x3
      refine StepU.go rfl (fun K hK => ?_)
      go_simp
      exact hK () _ ⟨k3, x3⟩
    refine StepsU.cons rfl (fun g L w' hL hr hc hF => ?_) ?_
    · obtain ⟨k3, x3⟩ := hF
      refine StepU.go rfl (fun K hK => ?_)
      go_simp
      refine (c3 _).mono ?_
      rintro e w4 ⟨rfl, b4⟩
      exact hK () _ ⟨Keeps.next k3 b4, x3.later b4⟩
    refine StepsU.cons rfl (fun g L w' hL hr hc hF => ?_) ?_
    · obtain ⟨k3, x3⟩ := hF
      obtain ⟨p1, p2, p3, p4⟩ := row_four x3
      refine StepU.go rfl (fun K hK => ?_)
      go_simp
      exact hK () _ ⟨k3, x3⟩
    refine StepsU.cons rfl (fun g L w' hL hr hc hF => ?_) ?_
    · obtain ⟨k3, x3⟩ := hF
      obtain ⟨p1, p2, p3, p4⟩ := row_four x3
      refine StepU.go rfl (fun K hK => ?_)
      go_simp
      exact hK () _ ⟨k3, x3⟩
    refine StepsU.cons rfl (fun g L w' hL hr hc hF => ?_) ?_
    · obtain ⟨k3, x3⟩ := hF
      obtain ⟨p1, p2, p3, p4⟩ := row_four x3
      refine StepU.go rfl (fun K hK => ?_)
      go_simp
      exact hK () _ ⟨k3, x3⟩
    refine StepsU.cons rfl (fun g L w' hL hr hc hF => ?_) ?_
    · obtain ⟨k3, x3⟩ := hF
      obtain ⟨p1, p2, p3, p4⟩ := row_four x3
      refine StepU.go rfl (fun K hK => ?_)
      go_simp
      exact hK () _ ⟨k3, x3⟩
    refine StepsU.cons rfl (fun g L w' hL hr hc hF => ?_) ?_
    · obtain ⟨k3, x3⟩ := hF
      obtain ⟨p1, p2, p3, p4⟩ := row_four x3
      refine StepU.go rfl (fun K hK => ?_)
      go_simp
      exact hK () _ ⟨k3, x3⟩
    exact StepsU.nil (by simp)
  case fin =>
  intro g L w3 hall hF
  obtain ⟨k3, x3⟩ := hF
  clear hall
  rcases HD2.out with d3 | ⟨d3, d4⟩
  all_goals
    go_wp2_with (first
      | (go_at_call 10; refine (aw _).mono ?_; rintro e w9 ⟨rfl, b9⟩; have k9 := Keeps.next k3 b9))
    go_ret
    exact ⟨rfl, k9⟩
set_option maxHeartbeats 4000000 in
set_option maxRecDepth 100000 in
theorem rungs_out_in (k n : Int) (h0 : k < 0 ∨ 100000 < k) (hn : gapCode n = true) (w : World) :
    Calls Tryd.prog 3 #[.int .i64 k, .int .i64 n] w fun e w' => e = .returned (.bool true) ∧ Keeps w w' := by
  have aw := fun z => awake_c z
  have c1 := fun z => Rung_no k h0 z
  have hd : decide (k < 0) = true ∨ (decide (k < 0) = false ∧ decide (100000 < k) = true) := by
    simp only [decide_eq_true_eq, decide_eq_false_iff_not]; omega
  have HD := Lib.hid hd
  clear h0 hd
  have hn2 : 0 ≤ n ∧ n ≤ 1000 := by unfold gapCode at hn; simpa using hn
  obtain ⟨m, rfl⟩ := Int.eq_ofNat_of_zero_le hn2.1
  have c2 := fun z => gaps_yes m (by omega) z
  have c4 := fun z => refGaps_c m (by omega) z
  have d3 : decide ((m : Int) < 0) = false := by simp
  have d4 : decide ((1000 : Int) < m) = false := by simp; omega
  clear hn hn2
  generalize (⟨(gapsL m).toArray⟩ : ByteArray) = S at *
  go_enter Tryd.func3, Tryd.ntmps3
  have k0 : Keeps w w := Below.refl _ _
  go_upto_region 3 with (first
    | (go_at_call 7
       (with_reducible refine (c1 _).mono ?_)
       rintro e w1 ⟨rfl, bl1⟩
       have rw1 := At.new w1 23 (gv (0, 0))
       have x1 := rw1.row (gv (0, 0))
       have dw1 := below_row (Keeps.alloc bl1 (.cells (gv (0, 0)) 23)) bl1.size (gv (0, 0))
       have k1 := Keeps.next k0 dw1
       clear c1 )
    | (refine wpList_store_row rfl 23 _ _ rfl _ (gv (0, 0)) rfl rfl 23 (gv (0, 0)) rw1 (sizeV _) rfl (oneV _) ?_)
    | (go_at_call 8
       (with_reducible refine (c2 _).mono ?_)
       rintro e w2 ⟨rfl, b2⟩
       have x2 := x1.later b2
       have k2 := Keeps.next k1 b2
       clear c2))
  rcases HD.out with d1 | ⟨d1, d2⟩
  all_goals
    go_wp2_with (first
      | (refine load_row_w rfl 23 _ rfl _ rfl 23 #[.int .i64 0, .int .i64 0] _ _ x2 Tryd.underlying23 rfl (sizeG _ _) ?_)
      | (go_at_call 11; (with_reducible refine (c4 _).mono ?_); rintro e w5 ⟨rfl, b5⟩; have k5 := Keeps.next k2 b5)
      | (go_at_call 10; refine (aw _).mono ?_; rintro e w9 ⟨rfl, b9⟩; have k9 := Keeps.next k5 b9))
    go_ret
    exact ⟨rfl, k9⟩
set_option maxHeartbeats 4000000 in
set_option maxRecDepth 100000 in
theorem rungs_out_out (k n : Int) (h0 : k < 0 ∨ 100000 < k) (hn : gapCode n = false) (w : World) :
    Calls Tryd.prog 3 #[.int .i64 k, .int .i64 n] w fun e w' => e = .returned (.bool true) ∧ Keeps w w' := by
  have aw := fun z => awake_c z
  have c1 := fun z => Rung_no k h0 z
  have hd : decide (k < 0) = true ∨ (decide (k < 0) = false ∧ decide (100000 < k) = true) := by
    simp only [decide_eq_true_eq, decide_eq_false_iff_not]; omega
  have HD := Lib.hid hd
  clear h0 hd
  have c2 := fun z => gaps_no n hn z
  have hd2 : decide (n < 0) = true ∨ (decide (n < 0) = false ∧ decide (1000 < n) = true) := by
    unfold gapCode at hn
    simp only [decide_eq_true_eq, decide_eq_false_iff_not]
    simp only [Bool.and_eq_false_iff, decide_eq_false_iff_not] at hn
    omega
  have HD2 := Lib.hid hd2
  clear hn hd2
  go_enter Tryd.func3, Tryd.ntmps3
  have k0 : Keeps w w := Below.refl _ _
  go_upto_region 3 with (first
    | (go_at_call 7
       (with_reducible refine (c1 _).mono ?_)
       rintro e w1 ⟨rfl, bl1⟩
       have rw1 := At.new w1 23 (gv (0, 0))
       have x1 := rw1.row (gv (0, 0))
       have dw1 := below_row (Keeps.alloc bl1 (.cells (gv (0, 0)) 23)) bl1.size (gv (0, 0))
       have k1 := Keeps.next k0 dw1
       clear c1 )
    | (refine wpList_store_row rfl 23 _ _ rfl _ (gv (0, 0)) rfl rfl 23 (gv (0, 0)) rw1 (sizeV _) rfl (oneV _) ?_)
    | (go_at_call 8
       (with_reducible refine (c2 _).mono ?_)
       rintro e w2 ⟨rfl, rfl⟩
       have x2 := x1
       have k2 := k1
       clear c2))
  rcases HD.out with d1 | ⟨d1, d2⟩
  all_goals
    rcases HD2.out with d3 | ⟨d3, d4⟩
    all_goals
      go_wp2_with (first
        | (refine load_row_w rfl 23 _ rfl _ rfl 23 #[.int .i64 0, .int .i64 0] _ _ x2 Tryd.underlying23 rfl (sizeG _ _) ?_)
        | (go_at_call 10; refine (aw _).mono ?_; rintro e w9 ⟨rfl, b9⟩; have k9 := Keeps.next k2 b9))
      go_ret
      exact ⟨rfl, k9⟩
theorem law_rungs (k n : Int) (w : World) (_ha : (Lit.int .i64 k).wf = true) (_hb : (Lit.int .i64 n).wf = true) : Calls Tryd.prog 3 #[.int .i64 k, .int .i64 n] w fun e w' => e = .returned (.bool true) ∧ Keeps w w' := by
  by_cases h : 0 ≤ k ∧ k ≤ 100000
  · cases hn : gapCode n
    · exact rungs_in_out k n h.1 h.2 hn w
    · exact rungs_in_in k n h.1 h.2 hn w
  · cases hn : gapCode n
    · exact rungs_out_out k n (by omega) hn w
    · exact rungs_out_in k n (by omega) hn w
end Go.Proofs.YtioaopmoljoieaaDoor
