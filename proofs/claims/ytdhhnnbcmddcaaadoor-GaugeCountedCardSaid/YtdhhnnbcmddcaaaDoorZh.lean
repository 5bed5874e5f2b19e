/- The law GaugeCounted. -/
import Derived.Test.YtdhhnnbcmddcaaaDoorZg
import Derived.Test.YtdhhnnbcmddcaaaDoorXc
import Derived.Test.YtdhhnnbcmddcaaaDoorUa
namespace Go.Proofs.YtdhhnnbcmddcaaaDoor
open Go.RowKit
set_option linter.unusedVariables false
set_option linter.unusedSimpArgs false

theorem counted_facts (X : Int × Int) (m : Int) (h0 : 0 ≤ m) (h1 : m < 1000) (hX : sm2 20000 X) (hn : nn X) :
    nn (minusG (1000000, 0) X) ∧ nn (minusG (1000000, 0) (X.1 + m, X.2)) ∧ 0 ≤ blw (partsL X) ∧ blw (partsL X) ≤ 100000 ∧ blw (partsL X) ≤ blw (partsL (X.1 + m, X.2)) ∧ 0 ≤ sgn ((rungG (blw (partsL X))).1 - X.1) ((rungG (blw (partsL X))).2 - X.2) ∧
      (blw (partsL X) = 0 → X = (0, 0)) ∧ (blw (partsL X) ≠ 0 → sgn ((rungG (blw (partsL X) - 1)).1 - X.1) ((rungG (blw (partsL X) - 1)).2 - X.2) < 0) := by
  have b1 : nn (minusG (60000, 0) X) := by
    unfold sm2 sm at hX
    have : nn (minusG (60000, 0) (20000, 20000)) := by decide +kernel
    have h2 : nn (20000 - X.1, 20000 - X.2) := by unfold nn; simp only; rw [sgn_nn]; exact .inl ⟨by omega, by omega⟩
    exact nn_sum this h2 (by simp only [minusG]; omega) (by simp only [minusG]; omega)
  have b2 : nn (minusG (70000, 0) (X.1 + m, X.2)) := nn_sum b1 (nn_int (10000 - m) (by omega)) (by simp only [minusG]; omega) (by simp only [minusG]; omega)
  have e1 : nn (minusG (1000000, 0) X) := nn_sum b1 (nn_int 940000 (by omega)) (by simp only [minusG]; omega) (by simp only [minusG]; omega)
  have e2 : nn (minusG (1000000, 0) (X.1 + m, X.2)) := nn_sum b2 (nn_int 930000 (by omega)) (by simp only [minusG]; omega) (by simp only [minusG]; omega)
  refine ⟨e1, e2, ?_⟩
  have sY : sm2 1000000 ((X.1 + m, X.2) : Int × Int) := by unfold sm2 sm at *; simp only; omega
  have sX : sm2 1000000 X := sm2_mono hX (by decide)
  by_cases hp : po X
  · have hq : po ((X.1 + m, X.2) : Int × Int) := po_sum hp (nn_int m h0) (by simp only) (by simp only; omega)
    have p1 := blw_place X sX hp e1
    have p2 := blw_place _ sY hq e2
    generalize blw (partsL X) = N at *
    generalize blw (partsL (X.1 + m, X.2)) = M at *
    obtain ⟨n1, n2, n3, n4⟩ := p1
    obtain ⟨m1, m2, m3, m4⟩ := p2
    have hNM : N ≤ M := by
      rcases Int.lt_or_le M N with h | h
      · exfalso
        have g1 := rung_le M (N - 1) (by omega) (by omega) (by omega)
        have g2 : nn (minusG (rungG (N - 1)) (X.1 + m, X.2)) := nn_sum g1 m4 (by simp only [minusG]; omega) (by simp only [minusG]; omega)
        have g3 : nn (minusG (rungG (N - 1)) X) := nn_sum g2 (nn_int m h0) (by simp only [minusG]; omega) (by simp only [minusG]; omega)
        exact nn_not g3 (by simp only [minusG]; omega) (by simp only [minusG]; omega) n3
      · exact h
    have hN : N ≤ 100000 := by
      rcases Int.lt_or_le 100000 N with h | h
      · exfalso
        have g1 := rung_le 100000 (N - 1) (by omega) (by omega) (by omega)
        have g2 : nn (minusG (rungG 100000) (60000, 0)) := by decide +kernel
        have g3 : nn (minusG (rungG (N - 1)) (60000, 0)) := nn_sum g1 g2 (by simp only [minusG]; omega) (by simp only [minusG]; omega)
        have g4 : nn (minusG (rungG (N - 1)) X) := nn_sum g3 b1 (by simp only [minusG]; omega) (by simp only [minusG]; omega)
        exact nn_not g4 (by simp only [minusG]; omega) (by simp only [minusG]; omega) n3
      · exact h
    refine ⟨by omega, hN, hNM, n4, fun h => by omega, fun _ => ?_⟩
    unfold po minusG at n3
    simp only at n3
    have := sgn_neg (X.1 - (rungG (N - 1)).1) (X.2 - (rungG (N - 1)).2)
    rw [show -(X.1 - (rungG (N - 1)).1) = (rungG (N - 1)).1 - X.1 by omega, show -(X.2 - (rungG (N - 1)).2) = (rungG (N - 1)).2 - X.2 by omega] at this
    omega
  · have hz := (sgn_zero X.1 X.2).1 (by unfold po nn at *; omega)
    have hX0 : X = (0, 0) := Prod.ext hz.1 hz.2
    have hM : 0 ≤ blw (partsL (X.1 + m, X.2)) := by
      by_cases hq : po ((X.1 + m, X.2) : Int × Int)
      · have := (blw_place _ sY hq e2).1; omega
      · rw [blw_zero _ hq]; omega
    rw [blw_zero X hp]
    refine ⟨by omega, by omega, hM, ?_, fun _ => hX0, fun h => absurd rfl h⟩
    rw [rungG_zero, hX0]; decide
theorem num_rung (k : Int) (h0 : 0 ≤ k) (h1 : k ≤ 100000) : numB (rungG k).1 (rungG k).2 = true := by
  have := rung_pos k h0 (by omega)
  rw [numB_iff]; omega
theorem modK_c (x : Int) (w : World) : Calls Tryd.prog 14 #[.int .i64 x, .int .i64 1000] w fun e w' => e = .returned (.int .i64 (modN x 1000)) ∧ Keeps w w' :=
  (mod_c x 1000 (by decide) (by decide) w).mono fun e w' ⟨he, hw⟩ => ⟨he, by subst hw; exact Below.refl _ _⟩
set_option maxHeartbeats 4000000 in
set_option maxRecDepth 100000 in
theorem counted_zero (x : Int × Int) (k : Int) (hN : blw (partsL (posG 20000 x)) = 0) (w : World) :
    Calls Tryd.prog 5 #[.agg (gv x), .int .i64 k] w fun e w' => e = .returned (.bool true) ∧ Keeps w w' := by
  have aw := fun z => awake_c z
  have c1 := fun z => positive_c x 20000 (by decide) (by decide) z
  obtain ⟨hX, hnn⟩ := posG_in 20000 (by decide) x
  have cm := fun z => modK_c k z
  have hm := modN_in k 1000 (by decide)
  generalize posG 20000 x = X at *
  generalize modN k 1000 = m at *
  obtain ⟨f1, f2, f3, f4, f5, f6, f7, f8⟩ := counted_facts X m hm.1 hm.2 hX hnn
  have nX := num_of (sm2_mono hX (by decide))
  have nY : numB (X.1 + m) X.2 = true := by rw [numB_iff]; unfold sm2 sm at hX; omega
  have c2 := fun z => Below_z X nX f1 z
  have c3 := fun z => Below_z (X.1 + m, X.2) nY f2 z
  generalize blw (partsL X) = N at *
  generalize blw (partsL (X.1 + m, X.2)) = M at *
  have nR := num_rung N f3 f4
  have c4 := fun z => Rung_yes N f3 f4 z
  have c5 := fun z => Compare_num (rungG N) X nR nX z
  have q1 : IntKind.i64.wrap (X.1 + m) = X.1 + m := IntWalk.i64_in _ (by unfold sm2 sm at hX; omega)
  have d1 : decide (N < 0) = false := decide_eq_false (by omega)
  have d2 : decide (100000 < N) = false := decide_eq_false (by omega)
  have d3 : decide (M < N) = false := decide_eq_false (by omega)
  have d4 : decide (sgn ((rungG N).1 - X.1) ((rungG N).2 - X.2) < 0) = false := decide_eq_false (by omega)
  generalize sgn ((rungG N).1 - X.1) ((rungG N).2 - X.2) = s1 at *
  have f9 := f7 hN
  have HX0 := Lib.hid f9
  subst hN
  clear f1 f2 f3 f4 f5 f6 f7 f8 f9 hX hnn hm nX nY nR
  generalize rungG 0 = R at *
  obtain ⟨W, hW⟩ : ∃ W, w.alloc (.cells #[.int .i64 x.1, .int .i64 x.2] 23) = W := ⟨_, rfl⟩
  have a0 : At W w.heap.size 23 (gv x) := by rw [← hW]; exact At.new w _ _
  have k0 : Keeps w W := by rw [← hW]; exact Keeps.alloc (Below.refl _ _) _
  have HW := Lib.hid hW
  clear hW
  change Calls Tryd.prog 5 #[.agg #[.int .i64 x.1, .int .i64 x.2], .int .i64 k] w _
  go_enter Tryd.func5, Tryd.ntmps5
  go_upto_region 1 with fail
  rw [HW.out]
  clear HW
  go_upto_region 2 with (first
    | (refine load_row_w rfl 23 _ rfl _ rfl 23 _ _ _ a0 Tryd.underlying23 rfl (sizeV _) ?_)
    | (go_at_call 18
       (with_reducible refine (c1 _).mono ?_)
       rintro e w1 ⟨rfl, b1⟩
       have a1 := a0.later b1
       have k1 := Keeps.next k0 b1
       have a3 := a1.row (gv X)
       have k3 := below_row k1 (Nat.le_refl _) (gv X)
       clear c1 k0 a0)
    | (refine wpList_store_row rfl 23 _ _ rfl w.heap.size (gv X) rfl rfl 23 (gv x) a1 (sizeV _) rfl (oneV _) ?_))
  generalize hW3 : w1.setRow w.heap.size (gv X) = W3 at *
  clear hW3 a1 k1 b1
  have lW := a3.lt
  refine region_any_inv (G := Nat) (f := ?f) (fun g => [.pointer (some ⟨w.heap.size, 0, none⟩), .int .i64 X.1, .int .i64 k, .int .i64 m, .int .i64 (X.1 + m), .pointer (some ⟨w.heap.size, 1, none⟩), .int .i64 X.2, .agg #[.int .i64 (X.1 + m), .int .i64 X.2], .pointer (some ⟨g, 0, none⟩), undef])
    (fun g L w' => Keeps W3 w' ∧ (L 8 = true → W3.heap.size ≤ g ∧ At w' g 23 (gv (if L 9 = true then (X.1 + m, X.2) else (0, 0))))) 0 (fun _ => ?hf) (by kernel_rfl) (by kernel_rfl) ⟨below_drewN (n := 1) (Below.refl _ _), fun h => (by cases h)⟩ ?steps ?fin
  case hf =>
    simp only [fill, List.toList_toArray, List.zip_cons_cons, List.zip_nil_left, List.zip_nil_right, List.foldl_cons, List.foldl_nil, Act.put, List.setIfInBounds_toArray, List.set_cons_succ, List.set_cons_zero]
    exact rfl
  case steps =>
    refine StepsU.cons rfl (fun g L w' hL hr hc hF => ?_) ?_
    · obtain ⟨k1, h8⟩ := hF
      clear aw cm c2 c3 c4 c5
      refine StepU.go rfl (fun K hK => ?_)
      go_simp
      exact hK g _ ⟨k1, h8⟩
    refine StepsU.cons rfl (fun g L w' hL hr hc hF => ?_) ?_
    · obtain ⟨k1, h8⟩ := hF
      obtain ⟨p1, p2, p3, p4⟩ := row_four (a3.later k1)
      clear aw cm c2 c3 c4 c5
      refine StepU.go rfl (fun K hK => ?_)
      go_simp
      exact hK g _ ⟨k1, h8⟩
    refine StepsU.cons rfl (fun g L w' hL hr hc hF => ?_) ?_
    · obtain ⟨k1, h8⟩ := hF
      clear aw cm c2 c3 c4 c5
      refine StepU.go rfl (fun K hK => ?_)
      go_simp
      exact hK g _ ⟨k1, h8⟩
    refine StepsU.cons rfl (fun g L w' hL hr hc hF => ?_) ?_
    · obtain ⟨k1, h8⟩ := hF
      have call9 := cm w'
      have C9 := Lib.hid call9
      clear call9
      clear aw cm c2 c3 c4 c5
      refine StepU.go rfl (fun K hK => ?_)
      go_simp
      refine C9.out.mono ?_
      rintro e w2 ⟨rfl, b3⟩
      exact hK g _ ⟨Keeps.next k1 b3, fun h => ⟨(h8 h).1, (h8 h).2.later b3⟩⟩
    refine StepsU.cons rfl (fun g L w' hL hr hc hF => ?_) ?_
    · obtain ⟨k1, h8⟩ := hF
      clear aw cm c2 c3 c4 c5
      refine StepU.go rfl (fun K hK => ?_)
      go_simp
      exact hK g _ ⟨k1, h8⟩
    refine StepsU.cons rfl (fun g L w' hL hr hc hF => ?_) ?_
    · obtain ⟨k1, h8⟩ := hF
      clear aw cm c2 c3 c4 c5
      refine StepU.go rfl (fun K hK => ?_)
      go_simp
      exact hK g _ ⟨k1, h8⟩
    refine StepsU.cons rfl (fun g L w' hL hr hc hF => ?_) ?_
    · obtain ⟨k1, h8⟩ := hF
      obtain ⟨p1, p2, p3, p4⟩ := row_four (a3.later k1)
      clear aw cm c2 c3 c4 c5
      refine StepU.go rfl (fun K hK => ?_)
      go_simp
      exact hK g _ ⟨k1, h8⟩
    refine StepsU.cons rfl (fun g L w' hL hr hc hF => ?_) ?_
    · obtain ⟨k1, h8⟩ := hF
      clear aw cm c2 c3 c4 c5
      refine StepU.go rfl (fun K hK => ?_)
      go_simp
      exact hK g _ ⟨k1, h8⟩
    refine StepsU.cons rfl (fun g L w' hL hr hc hF => ?_) ?_
    · obtain ⟨k1, h8⟩ := hF
      have e9 := hc.not 9 8 rfl rfl hL
      have E9 := Lib.hid e9
      clear e9
      clear aw cm c2 c3 c4 c5
      refine StepU.go rfl (fun K hK => ?_)
      go_simp
      refine hK w'.heap.size _ ⟨Keeps.alloc k1 _, fun _ => ⟨k1.size, ?_⟩⟩
      rw [show add L 8 9 = L 9 from rfl, E9.out, if_neg (by simp)]
      exact At.new _ _ _
    refine StepsU.cons rfl (fun g L w' hL hr hc hF => ?_) ?_
    · obtain ⟨k1, h8⟩ := hF
      obtain ⟨z9, y9⟩ := h8 (hr 8 rfl)
      rw [hL, if_neg (by simp)] at y9
      obtain ⟨p1, p2, p3, p4⟩ := row_four y9
      have z8 : W3.heap.size ≤ W3.heap.size := Nat.le_refl _
      clear aw cm c2 c3 c4 c5
      refine StepU.go rfl (fun K hK => ?_)
      go_simp
      refine hK g _ ⟨Keeps.set (Keeps.set k1 _ z9 _ _) _ z9 _ _, fun _ => ⟨z9, ?_⟩⟩
      rw [if_pos (add_same L _)]
      exact (y9.set 0 _).set 1 _
    exact StepsU.nil (by simp)
  case fin =>
  intro g L w4 hall hF
  obtain ⟨k9, h8⟩ := hF
  obtain ⟨z9, y4⟩ := h8 (hall 8 (by simp))
  rw [hall 9 (by simp), if_pos rfl] at y4
  have a4 := a3.later k9
  have k4 := Keeps.next k3 k9
  clear hall h8 k9 a3 k3 cm
  go_upto_region 4 with (first
    | (refine load_row_w rfl 23 _ rfl _ rfl 23 _ _ _ a4 Tryd.underlying23 rfl (sizeV _) ?_)
    | (go_at_call 8
       (with_reducible refine (c2 _).mono ?_)
       rintro e w5 ⟨rfl, b5⟩
       have a5 := a4.later b5
       have y5 := y4.later b5
       have k5 := Keeps.next k4 b5
       clear c2 k4 a4 y4))
  go_upto_region 5 with (first
    | (refine load_row_w rfl 23 _ rfl _ rfl 23 _ _ _ y5 Tryd.underlying23 rfl (sizeV _) ?_)
    | (go_at_call 8
       (with_reducible refine (c3 _).mono ?_)
       rintro e w6 ⟨rfl, b6⟩
       have a6 := a5.later b6
       have k6 := Keeps.next k5 b6
       clear c3 k5 a5))
  clear y5
  go_upto_region 7 with (fail)
  clear d1 d2 d3 q1
  go_upto_region 8 with (first
    | (go_at_call 15
       (with_reducible refine (c4 _).mono ?_)
       rintro e w7 ⟨rfl, b7⟩
       have a7x := a6.later b7
       have k7 := Keeps.next k6 b7
       have t7 := At.new w7 23 (gv (0, 0))
       have t8 := t7.row (gv R)
       have dd := below_row (Keeps.alloc (Below.refl _ _) (.cells (gv (0, 0)) 23)) (Nat.le_refl w7.heap.size) (gv R)
       have a8 := a7x.later dd
       have k8 := Keeps.next k7 dd
       clear dd a7x k7
       clear c4 k6 a6)
    | (refine wpList_store_row rfl 23 _ _ rfl w7.heap.size (gv R) rfl rfl 23 (gv (0, 0)) t7 (sizeV _) rfl (oneV _) ?_))
  go_upto_region 9 with (first
    | (refine load_row_w rfl 23 _ rfl _ rfl 23 _ _ _ t8 Tryd.underlying23 rfl (sizeV _) ?_)
    | (refine load_row_w rfl 23 _ rfl _ rfl 23 _ _ _ a8 Tryd.underlying23 rfl (sizeV _) ?_)
    | (go_at_call 19
       (with_reducible refine (c5 _).mono ?_)
       rintro e w9 ⟨rfl, b9⟩
       have a9 := a8.later b9
       have k9 := Keeps.next k8 b9
       clear c5 k8 a8))
  clear t7 t8
  go_upto_region 12 with (fail)
  rw [HX0.out] at a9
  clear HX0 d4
  go_wp2_with (first
    | (refine load_row_w rfl 23 _ rfl _ rfl 23 #[.int .i64 0, .int .i64 0] _ _ a9 Tryd.underlying23 rfl (sizeG _ _) ?_)
    | (go_at_call 12
       (with_reducible refine (aw _).mono ?_)
       rintro e w10 ⟨rfl, b10⟩
       have k10 := Keeps.next k9 b10
       clear aw k9 ))
  go_ret
  exact ⟨rfl, k10⟩
set_option maxHeartbeats 4000000 in
set_option maxRecDepth 100000 in
theorem counted_more (x : Int × Int) (k : Int) (hN : blw (partsL (posG 20000 x)) ≠ 0) (w : World) :
    Calls Tryd.prog 5 #[.agg (gv x), .int .i64 k] w fun e w' => e = .returned (.bool true) ∧ Keeps w w' := by
  have aw := fun z => awake_c z
  have c1 := fun z => positive_c x 20000 (by decide) (by decide) z
  obtain ⟨hX, hnn⟩ := posG_in 20000 (by decide) x
  have cm := fun z => modK_c k z
  have hm := modN_in k 1000 (by decide)
  generalize posG 20000 x = X at *
  generalize modN k 1000 = m at *
  obtain ⟨f1, f2, f3, f4, f5, f6, f7, f8⟩ := counted_facts X m hm.1 hm.2 hX hnn
  have nX := num_of (sm2_mono hX (by decide))
  have nY : numB (X.1 + m) X.2 = true := by rw [numB_iff]; unfold sm2 sm at hX; omega
  have c2 := fun z => Below_z X nX f1 z
  have c3 := fun z => Below_z (X.1 + m, X.2) nY f2 z
  generalize blw (partsL X) = N at *
  generalize blw (partsL (X.1 + m, X.2)) = M at *
  have nR := num_rung N f3 f4
  have c4 := fun z => Rung_yes N f3 f4 z
  have c5 := fun z => Compare_num (rungG N) X nR nX z
  have q1 : IntKind.i64.wrap (X.1 + m) = X.1 + m := IntWalk.i64_in _ (by unfold sm2 sm at hX; omega)
  have d1 : decide (N < 0) = false := decide_eq_false (by omega)
  have d2 : decide (100000 < N) = false := decide_eq_false (by omega)
  have d3 : decide (M < N) = false := decide_eq_false (by omega)
  have d4 : decide (sgn ((rungG N).1 - X.1) ((rungG N).2 - X.2) < 0) = false := decide_eq_false (by omega)
  generalize sgn ((rungG N).1 - X.1) ((rungG N).2 - X.2) = s1 at *
  have f9 := f8 hN
  have e1 : 1 ≤ N := by omega
  have nR2 := num_rung (N - 1) (by omega) (by omega)
  have c6 := fun z => Rung_yes (N - 1) (by omega) (by omega) z
  have c7 := fun z => Compare_num (rungG (N - 1)) X nR2 nX z
  have q2 : IntKind.i64.wrap (N - 1) = N - 1 := IntWalk.i64_in _ (by omega)
  have d5 : decide (sgn ((rungG (N - 1)).1 - X.1) ((rungG (N - 1)).2 - X.2) < 0) = true := decide_eq_true f9
  have d6 : (N == 0) = false := by simpa using hN
  generalize sgn ((rungG (N - 1)).1 - X.1) ((rungG (N - 1)).2 - X.2) = s2 at *
  generalize rungG (N - 1) = R2 at *
  clear f1 f2 f3 f4 f5 f6 f7 f8 f9 hX hnn hm nX nY nR nR2 e1 hN
  generalize rungG N = R at *
  obtain ⟨W, hW⟩ : ∃ W, w.alloc (.cells #[.int .i64 x.1, .int .i64 x.2] 23) = W := ⟨_, rfl⟩
  have a0 : At W w.heap.size 23 (gv x) := by rw [← hW]; exact At.new w _ _
  have k0 : Keeps w W := by rw [← hW]; exact Keeps.alloc (Below.refl _ _) _
  have HW := Lib.hid hW
  clear hW
  change Calls Tryd.prog 5 #[.agg #[.int .i64 x.1, .int .i64 x.2], .int .i64 k] w _
  go_enter Tryd.func5, Tryd.ntmps5
  go_upto_region 1 with fail
  rw [HW.out]
  clear HW
  go_upto_region 2 with (first
    | (refine load_row_w rfl 23 _ rfl _ rfl 23 _ _ _ a0 Tryd.underlying23 rfl (sizeV _) ?_)
    | (go_at_call 18
       (with_reducible refine (c1 _).mono ?_)
       rintro e w1 ⟨rfl, b1⟩
       have a1 := a0.later b1
       have k1 := Keeps.next k0 b1
       have a3 := a1.row (gv X)
       have k3 := below_row k1 (Nat.le_refl _) (gv X)
       clear c1 k0 a0)
    | (refine wpList_store_row rfl 23 _ _ rfl w.heap.size (gv X) rfl rfl 23 (gv x) a1 (sizeV _) rfl (oneV _) ?_))
  generalize hW3 : w1.setRow w.heap.size (gv X) = W3 at *
  clear hW3 a1 k1 b1
  have lW := a3.lt
  refine region_any_inv (G := Nat) (f := ?f) (fun g => [.pointer (some ⟨w.heap.size, 0, none⟩), .int .i64 X.1, .int .i64 k, .int .i64 m, .int .i64 (X.1 + m), .pointer (some ⟨w.heap.size, 1, none⟩), .int .i64 X.2, .agg #[.int .i64 (X.1 + m), .int .i64 X.2], .pointer (some ⟨g, 0, none⟩), undef])
    (fun g L w' => Keeps W3 w' ∧ (L 8 = true → W3.heap.size ≤ g ∧ At w' g 23 (gv (if L 9 = true then (X.1 + m, X.2) else (0, 0))))) 0 (fun _ => ?hf) (by kernel_rfl) (by kernel_rfl) ⟨below_drewN (n := 1) (Below.refl _ _), fun h => (by cases h)⟩ ?steps ?fin
  case hf =>
    simp only [fill, List.toList_toArray, List.zip_cons_cons, List.zip_nil_left, List.zip_nil_right, List.foldl_cons, List.foldl_nil, Act.put, List.setIfInBounds_toArray, List.set_cons_succ, List.set_cons_zero]
    exact rfl
  case steps =>
    refine StepsU.cons rfl (fun g L w' hL hr hc hF => ?_) ?_
    · obtain ⟨k1, h8⟩ := hF
      clear aw cm c2 c3 c4 c5 c6 c7
      refine StepU.go rfl (fun K hK => ?_)
      go_simp
      exact hK g _ ⟨k1, h8⟩
    refine StepsU.cons rfl (fun g L w' hL hr hc hF => ?_) ?_
    · obtain ⟨k1, h8⟩ := hF
      obtain ⟨p1, p2, p3, p4⟩ := row_four (a3.later k1)
      clear aw cm c2 c3 c4 c5 c6 c7
      refine StepU.go rfl (fun K hK => ?_)
      go_simp
      exact hK g _ ⟨k1, h8⟩
    refine StepsU.cons rfl (fun g L w' hL hr hc hF => ?_) ?_
    · obtain ⟨k1, h8⟩ := hF
      clear aw cm c2 c3 c4 c5 c6 c7
      refine StepU.go rfl (fun K hK => ?_)
      go_simp
      exact hK g _ ⟨k1, h8⟩
    refine StepsU.cons rfl (fun g L w' hL hr hc hF => ?_) ?_
    · obtain ⟨k1, h8⟩ := hF
      have call9 := cm w'
      have C9 := Lib.hid call9
      clear call9
      clear aw cm c2 c3 c4 c5 c6 c7
      refine StepU.go rfl (fun K hK => ?_)
      go_simp
      refine C9.out.mono ?_
      rintro e w2 ⟨rfl, b3⟩
      exact hK g _ ⟨Keeps.next k1 b3, fun h => ⟨(h8 h).1, (h8 h).2.later b3⟩⟩
    refine StepsU.cons rfl (fun g L w' hL hr hc hF => ?_) ?_
    · obtain ⟨k1, h8⟩ := hF
      clear aw cm c2 c3 c4 c5 c6 c7
      refine StepU.go rfl (fun K hK => ?_)
      go_simp
      exact hK g _ ⟨k1, h8⟩
    refine StepsU.cons rfl (fun g L w' hL hr hc hF => ?_) ?_
    · obtain ⟨k1, h8⟩ := hF
      clear aw cm c2 c3 c4 c5 c6 c7
      refine StepU.go rfl (fun K hK => ?_)
      go_simp
      exact hK g _ ⟨k1, h8⟩
    refine StepsU.cons rfl (fun g L w' hL hr hc hF => ?_) ?_
    · obtain ⟨k1, h8⟩ := hF
      obtain ⟨p1, p2, p3, p4⟩ := row_four (a3.later k1)
      clear aw cm c2 c3 c4 c5 c6 c7
      refine StepU.go rfl (fun K hK => ?_)
      go_simp
      exact hK g _ ⟨k1, h8⟩
    refine StepsU.cons rfl (fun g L w' hL hr hc hF => ?_) ?_
    · obtain ⟨k1, h8⟩ := hF
      clear aw cm c2 c3 c4 c5 c6 c7
      refine StepU.go rfl (fun K hK => ?_)
      go_simp
      exact hK g _ ⟨k1, h8⟩
    refine StepsU.cons rfl (fun g L w' hL hr hc hF => ?_) ?_
    · obtain ⟨k1, h8⟩ := hF
      have e9 := hc.not 9 8 rfl rfl hL
      have E9 := Lib.hid e9
      clear e9
      clear aw cm c2 c3 c4 c5 c6 c7
      refine StepU.go rfl (fun K hK => ?_)
      go_simp
      refine hK w'.heap.size _ ⟨Keeps.alloc k1 _, fun _ => ⟨k1.size, ?_⟩⟩
      rw [show add L 8 9 = L 9 from rfl, E9.out, if_neg (by simp)]
      exact At.new _ _ _
    refine StepsU.cons rfl (fun g L w' hL hr hc hF => ?_) ?_
    · obtain ⟨k1, h8⟩ := hF
      obtain ⟨z9, y9⟩ := h8 (hr 8 rfl)
      rw [hL, if_neg (by simp)] at y9
      obtain ⟨p1, p2, p3, p4⟩ := row_four y9
      have z8 : W3.heap.size ≤ W3.heap.size := Nat.le_refl _
      clear aw cm c2 c3 c4 c5 c6 c7
      refine StepU.go rfl (fun K hK => ?_)
      go_simp
      refine hK g _ ⟨Keeps.set (Keeps.set k1 _ z9 _ _) _ z9 _ _, fun _ => ⟨z9, ?_⟩⟩
      rw [if_pos (add_same L _)]
      exact (y9.set 0 _).set 1 _
    exact StepsU.nil (by simp)
  case fin =>
  intro g L w4 hall hF
  obtain ⟨k9, h8⟩ := hF
  obtain ⟨z9, y4⟩ := h8 (hall 8 (by simp))
  rw [hall 9 (by simp), if_pos rfl] at y4
  have a4 := a3.later k9
  have k4 := Keeps.next k3 k9
  clear hall h8 k9 a3 k3 cm
  go_upto_region 4 with (first
    | (refine load_row_w rfl 23 _ rfl _ rfl 23 _ _ _ a4 Tryd.underlying23 rfl (sizeV _) ?_)
    | (go_at_call 8
       (with_reducible refine (c2 _).mono ?_)
       rintro e w5 ⟨rfl, b5⟩
       have a5 := a4.later b5
       have y5 := y4.later b5
       have k5 := Keeps.next k4 b5
       clear c2 k4 a4 y4))
  go_upto_region 5 with (first
    | (refine load_row_w rfl 23 _ rfl _ rfl 23 _ _ _ y5 Tryd.underlying23 rfl (sizeV _) ?_)
    | (go_at_call 8
       (with_reducible refine (c3 _).mono ?_)
       rintro e w6 ⟨rfl, b6⟩
       have a6 := a5.later b6
       have k6 := Keeps.next k5 b6
       clear c3 k5 a5))
  clear y5
  go_upto_region 7 with (fail)
  clear d1 d2 d3 q1
  go_upto_region 8 with (first
    | (go_at_call 15
       (with_reducible refine (c4 _).mono ?_)
       rintro e w7 ⟨rfl, b7⟩
       have a7x := a6.later b7
       have k7 := Keeps.next k6 b7
       have t7 := At.new w7 23 (gv (0, 0))
       have t8 := t7.row (gv R)
       have dd := below_row (Keeps.alloc (Below.refl _ _) (.cells (gv (0, 0)) 23)) (Nat.le_refl w7.heap.size) (gv R)
       have a8 := a7x.later dd
       have k8 := Keeps.next k7 dd
       clear dd a7x k7
       clear c4 k6 a6)
    | (refine wpList_store_row rfl 23 _ _ rfl w7.heap.size (gv R) rfl rfl 23 (gv (0, 0)) t7 (sizeV _) rfl (oneV _) ?_))
  go_upto_region 9 with (first
    | (refine load_row_w rfl 23 _ rfl _ rfl 23 _ _ _ t8 Tryd.underlying23 rfl (sizeV _) ?_)
    | (refine load_row_w rfl 23 _ rfl _ rfl 23 _ _ _ a8 Tryd.underlying23 rfl (sizeV _) ?_)
    | (go_at_call 19
       (with_reducible refine (c5 _).mono ?_)
       rintro e w9 ⟨rfl, b9⟩
       have a9 := a8.later b9
       have k9 := Keeps.next k8 b9
       clear c5 k8 a8))
  clear t7 t8
  go_upto_region 13 with (fail)
  clear d4 d6
  go_upto_region 14 with (first
    | (go_at_call 15
       (with_reducible refine (c6 _).mono ?_)
       rintro e w11 ⟨rfl, b11⟩
       have a11x := a9.later b11
       have k11 := Keeps.next k9 b11
       have t7 := At.new w11 23 (gv (0, 0))
       have t8 := t7.row (gv R2)
       have dd := below_row (Keeps.alloc (Below.refl _ _) (.cells (gv (0, 0)) 23)) (Nat.le_refl w11.heap.size) (gv R2)
       have a12 := a11x.later dd
       have k12 := Keeps.next k11 dd
       clear dd a11x k11
       clear c6 k9 a9)
    | (refine wpList_store_row rfl 23 _ _ rfl w11.heap.size (gv R2) rfl rfl 23 (gv (0, 0)) t7 (sizeV _) rfl (oneV _) ?_))
  go_upto_region 15 with (first
    | (refine load_row_w rfl 23 _ rfl _ rfl 23 _ _ _ t8 Tryd.underlying23 rfl (sizeV _) ?_)
    | (refine load_row_w rfl 23 _ rfl _ rfl 23 _ _ _ a12 Tryd.underlying23 rfl (sizeV _) ?_)
    | (go_at_call 19
       (with_reducible refine (c7 _).mono ?_)
       rintro e w13 ⟨rfl, b13⟩
       have k13 := Keeps.next k12 b13
       clear c7 k12 ))
  clear t7 t8 q2
  go_wp2_with (first
    | (go_at_call 12
       (with_reducible refine (aw _).mono ?_)
       rintro e w14 ⟨rfl, b14⟩
       have k14 := Keeps.next k13 b14
       clear aw k13 ))
  go_ret
  exact ⟨rfl, k14⟩
theorem law_counted (a b k : Int) (w : World) (_ : (Lit.int IntKind.i64 k).wf = true) :
    Calls Tryd.prog 5 #[.agg #[.int .i64 a, .int .i64 b], .int .i64 k] w fun e w' => e = .returned (.bool true) ∧ Keeps w w' := by
  by_cases h : blw (partsL (posG 20000 (a, b))) = 0
  · exact counted_zero (a, b) k h w
  · exact counted_more (a, b) k h w
end Go.Proofs.YtdhhnnbcmddcaaaDoor
