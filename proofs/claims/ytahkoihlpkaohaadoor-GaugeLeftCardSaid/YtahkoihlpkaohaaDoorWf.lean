/- The law GaugeLeft. -/
import Derived.Test.YtahkoihlpkaohaaDoorUa
import Derived.Test.YtahkoihlpkaohaaDoorWb
import Derived.Test.YtahkoihlpkaohaaDoorWd
import Derived.Test.YtahkoihlpkaohaaDoorVm
namespace Go.Proofs.YtahkoihlpkaohaaDoor
open Go.RowKit
set_option linter.unusedVariables false
set_option linter.unusedSimpArgs false

set_option maxHeartbeats 4000000 in
set_option maxRecDepth 100000 in
theorem left_zero (x y : Int × Int) (hy0 : tameG 1000 y = (0, 0)) (w : World) :
    Calls Tryd.prog 7 #[.agg (gv x), .agg (gv y)] w fun e w' => e = .returned (.bool true) ∧ Keeps w w' := by
  have aw := fun z => awake_c z
  have t1 := fun z => tame_c x 100000 (by decide) (by decide) z
  have t2 := fun z => tame_c y 1000 (by decide) (by decide) z
  have hX := tame_sm 100000 (by decide) x
  rw [hy0] at t2
  generalize tameG 100000 x = X at *
  have c1 := fun z => divide_0 X (num_of (sm2_mono hX (by decide))) z
  obtain ⟨Y, hY⟩ : ∃ Y : Int × Int, (0, 0) = Y := ⟨_, rfl⟩
  rw [hY] at t2
  clear hX hy0
  obtain ⟨W, hW⟩ : ∃ W, ((w.alloc (.cells #[.int .i64 x.1, .int .i64 x.2] 23)).alloc (.cells #[.int .i64 y.1, .int .i64 y.2] 23)) = W := ⟨_, rfl⟩
  have x0 : At W (w.heap.size) 23 (gv x) := by rw [← hW]; exact (At.new w _ _).alloc _
  have y0 : At W (w.heap.size + 1) 23 (gv y) := by rw [← hW]; exact At.new2 w _ _ _
  have k0 : Keeps w W := by rw [← hW]; exact Keeps.alloc (Keeps.alloc (Below.refl _ _) _) _
  have HW := Lib.hid hW
  clear hW
  change Calls Tryd.prog 7 #[.agg #[.int .i64 x.1, .int .i64 x.2], .agg #[.int .i64 y.1, .int .i64 y.2]] w _
  go_enter Tryd.func7, Tryd.ntmps7
  go_upto_region 1 with (fail)
  rw [HW.out]
  clear HW
  refine region_any_inv (G := Unit) (f := ?f) (fun _ => [.agg (gv x), .agg #[.int .i64 X.1, .int .i64 X.2], .agg (gv y), .agg #[.int .i64 Y.1, .int .i64 Y.2], undef, undef])
    (fun _ L w' => Keeps w w' ∧ At w' (w.heap.size) 23 (gv (if L 4 = true then X else x)) ∧ At w' (w.heap.size + 1) 23 (gv (if L 5 = true then Y else y)))
    () (fun _ => ?hf) (by kernel_rfl) (by kernel_rfl) ⟨k0.dr, x0.drew, y0.drew⟩ ?steps ?fin
  case hf =>
    simp only [fill, List.toList_toArray, List.zip_cons_cons, List.zip_nil_left, List.zip_nil_right, List.foldl_cons, List.foldl_nil, Act.put, List.setIfInBounds_toArray, List.set_cons_succ, List.set_cons_zero]
    exact rfl
  case steps =>
    have n01 : w.heap.size ≠ w.heap.size + 1 := by omega
    have l0 : w.heap.size ≤ w.heap.size := by omega
    have n10 : w.heap.size + 1 ≠ w.heap.size := by omega
    have l1 : w.heap.size ≤ w.heap.size + 1 := by omega
    refine StepsU.cons rfl (fun g L w' hL hr hc hF => ?_) ?_
    · have e := hc.not 4 0 rfl rfl hL
      obtain ⟨k1, x1, y1⟩ := hF
      have h1 := x1
      rw [e, if_neg (by simp)] at h1
      obtain ⟨p1, p2, p3, p4⟩ := row_four h1
      refine StepU.go rfl (fun K hK => ?_)
      clear aw c1 t1 t2
      go_simp
      exact hK () _ ⟨k1, x1, y1⟩
    refine StepsU.cons rfl (fun g L w' hL hr hc hF => ?_) ?_
    · obtain ⟨k1, x1, y1⟩ := hF
      refine StepU.go rfl (fun K hK => ?_)
      clear aw c1
      go_simp
      refine (t1 _).mono ?_
      rintro e w2 ⟨rfl, b1⟩
      exact hK () _ ⟨Keeps.next k1 b1, x1.later b1, y1.later b1⟩
    refine StepsU.cons rfl (fun g L w' hL hr hc hF => ?_) ?_
    · have e := hc.not 5 2 rfl rfl hL
      obtain ⟨k1, x1, y1⟩ := hF
      have h1 := y1
      rw [e, if_neg (by simp)] at h1
      obtain ⟨p1, p2, p3, p4⟩ := row_four h1
      refine StepU.go rfl (fun K hK => ?_)
      clear aw c1 t1 t2
      go_simp
      exact hK () _ ⟨k1, x1, y1⟩
    refine StepsU.cons rfl (fun g L w' hL hr hc hF => ?_) ?_
    · obtain ⟨k1, x1, y1⟩ := hF
      refine StepU.go rfl (fun K hK => ?_)
      clear aw c1
      go_simp
      refine (t2 _).mono ?_
      rintro e w2 ⟨rfl, b1⟩
      exact hK () _ ⟨Keeps.next k1 b1, x1.later b1, y1.later b1⟩
    refine StepsU.cons rfl (fun g L w' hL hr hc hF => ?_) ?_
    · obtain ⟨k1, x1, y1⟩ := hF
      have h1 := x1
      rw [hL, if_neg (by simp)] at h1
      obtain ⟨p1, p2, p3, p4⟩ := row_four h1
      refine StepU.go rfl (fun K hK => ?_)
      clear aw c1 t1 t2
      go_simp
      refine hK () _ ?_
      exact ⟨Keeps.set (Keeps.set k1 _ l0 _ _) _ l0 _ _, by rw [if_pos (add_same L _)]; exact (h1.set 0 _).set 1 _, (y1.far n10 _).far n10 _⟩
    refine StepsU.cons rfl (fun g L w' hL hr hc hF => ?_) ?_
    · obtain ⟨k1, x1, y1⟩ := hF
      have h1 := y1
      rw [hL, if_neg (by simp)] at h1
      obtain ⟨p1, p2, p3, p4⟩ := row_four h1
      refine StepU.go rfl (fun K hK => ?_)
      clear aw c1 t1 t2
      go_simp
      refine hK () _ ?_
      exact ⟨Keeps.set (Keeps.set k1 _ l1 _ _) _ l1 _ _, (x1.far n01 _).far n01 _, by rw [if_pos (add_same L _)]; exact (h1.set 0 _).set 1 _⟩
    exact StepsU.nil (by simp)
  case fin =>
  intro g L w0 hall hF
  clear x0 y0 k0
  obtain ⟨k0, x0, y0⟩ := hF
  rw [hall 4 (by simp), if_pos rfl] at x0
  rw [hall 5 (by simp), if_pos rfl] at y0
  clear hall t1 t2
  rw [← hY] at y0
  clear hY
  go_wp2_with (first
    | (refine load_row_w rfl 23 _ rfl _ rfl 23 #[.int .i64 0, .int .i64 0] _ _ y0 Tryd.underlying23 rfl (sizeG _ _) ?_)
    | (refine load_row_w rfl 23 _ rfl _ rfl 23 _ _ _ x0 Tryd.underlying23 rfl (sizeV _) ?_)
    | (go_at_call 9
       refine (c1 _).mono ?_
       rintro e w1 ⟨rfl, bl1⟩
       have ga1 : At ((w1.alloc (.cells (gv (0, 0)) 23)).alloc (.cells (gv (0, 0)) 23)) w1.heap.size 23 (gv (0, 0)) := (At.new w1 _ _).alloc _
       have sa1 : At ((w1.alloc (.cells (gv (0, 0)) 23)).alloc (.cells (gv (0, 0)) 23)) (w1.heap.size + 1) 23 (gv (0, 0)) := At.new2 w1 _ _ _
       have sb1 := sa1.rowfar (by omega) (gv (0, 0)) (g' := w1.heap.size)
       have g1 := (ga1.row (gv (0, 0))).rowfar (by omega) (gv (0, 0)) (g' := w1.heap.size + 1)
       have s1 := sb1.row (gv (0, 0))
       have dd := below_row (below_row (Keeps.alloc (Keeps.alloc bl1 (.cells (gv (0, 0)) 23)) (.cells (gv (0, 0)) 23)) bl1.size (gv (0, 0))) (Nat.le_succ_of_le bl1.size) (gv (0, 0))
       have x1 := x0.later dd
       have y1 := y0.later dd
       have k1 := Keeps.next k0 dd
       clear c1 x0 y0)
    | (refine wpList_store_row rfl 23 _ _ rfl (w1.heap.size) (gv (0, 0)) rfl rfl 23 (gv (0, 0)) ga1 (sizeV _) rfl (oneV _) ?_)
    | (refine wpList_store_row rfl 23 _ _ rfl (w1.heap.size + 1) (gv (0, 0)) rfl rfl 23 (gv (0, 0)) sb1 (sizeV _) rfl (oneV _) ?_)
    | (go_at_call 11; refine (aw _).mono ?_; rintro e w9 ⟨rfl, b9⟩))
  go_ret
  exact ⟨rfl, Keeps.next k1 b9⟩
set_option maxHeartbeats 4000000 in
set_option maxRecDepth 100000 in
theorem left_num (x y : Int × Int) (hy0 : tameG 1000 y ≠ (0, 0)) (w : World) :
    Calls Tryd.prog 7 #[.agg (gv x), .agg (gv y)] w fun e w' => e = .returned (.bool true) ∧ Keeps w w' := by
  have aw := fun z => awake_c z
  have t1 := fun z => tame_c x 100000 (by decide) (by decide) z
  have t2 := fun z => tame_c y 1000 (by decide) (by decide) z
  have hX := tame_sm 100000 (by decide) x
  have hY := tame_sm 1000 (by decide) y
  generalize tameG 100000 x = X at *
  generalize tameG 1000 y = Y at *
  have nX := num_of (sm2_mono hX (by decide))
  have nY := num_of (sm2_mono hY (by decide))
  have c2 := fun z => Divide_c X Y nX nY hy0 z
  have t3 := fun z => tame_c X 400 (by decide) (by decide) z
  have hZ := tame_sm 400 (by decide) X
  generalize tameG 400 X = Z at *
  have hZY := sm2_times hZ hY (by decide) (by decide)
  have hD : ∃ pv sv : Int × Int, ∃ e5 : Int, (∀ z, Calls Tryd.prog 9 #[.agg #[.int .i64 (timesG Z Y).1, .int .i64 (timesG Z Y).2], .agg (gv Y)] z fun e w' => e = .returned (.tuple #[.agg #[.int .i64 pv.1, .int .i64 pv.2], .agg #[.int .i64 sv.1, .int .i64 sv.2], .int .i64 e5]) ∧ Keeps z w') ∧
      (numB (timesG Z Y).1 (timesG Z Y).2 = true → pv = Z ∧ sv = (0, 0) ∧ e5 = 0) ∧ (numB (timesG Z Y).1 (timesG Z Y).2 = false → e5 = 2) := by
    cases hb : numB (timesG Z Y).1 (timesG Z Y).2
    · exact ⟨(0, 0), (0, 0), 2, fun z => divide_x (timesG Z Y) Y hb z, fun h => by simp at h, fun _ => rfl⟩
    · have hm := div_mul Z Y (norm_ne Y hy0)
      refine ⟨Z, (0, 0), 0, fun z => ?_, fun _ => ⟨rfl, rfl, rfl⟩, fun h => by simp at h⟩
      have h := Divide_c (timesG Z Y) Y hb nY hy0 z
      unfold dvV at h
      rw [hm.1, hm.2, if_pos ⟨num_of (sm2_mono hZ (by decide)), by decide⟩] at h
      exact h
  obtain ⟨pv, sv, e5, c5, hD1, hD2⟩ := hD
  have m1 : ∀ z, Calls Tryd.prog 14 #[.agg #[.int .i64 Z.1, .int .i64 Z.2], .agg #[.int .i64 Y.1, .int .i64 Y.2]] z fun e w' => e = .returned (.agg #[.int .i64 (timesG Z Y).1, .int .i64 (timesG Z Y).2]) ∧ Keeps z w' := fun z => refTimes_v Z Y (sm2_mono hZ (by decide)) (sm2_mono hY (by decide)) z
  have i5 : ∀ z, Calls Tryd.prog 10 #[.agg #[.int .i64 (timesG Z Y).1, .int .i64 (timesG Z Y).2]] z fun e w' => e = .returned (.bool (numB (timesG Z Y).1 (timesG Z Y).2)) ∧ Keeps z w' := fun z => refNumber_v (timesG Z Y) z
  have hsum := div_sum X Y
  have hhalf := rest_half X Y (norm_ne Y hy0)
  have hNy := norm_ne Y hy0
  have hv : (numB (divQ X Y).1 (divQ X Y).2 = true ∧ numB (divR X Y).1 (divR X Y).2 = true ∧ (dvV X Y).1 = divQ X Y ∧ (dvV X Y).2.1 = divR X Y ∧ (dvV X Y).2.2 = 0) ∨
      ((dvV X Y).1 = (0, 0) ∧ (dvV X Y).2.1 = (0, 0) ∧ (dvV X Y).2.2 = 5) := by
    unfold dvV
    by_cases h : numB (divQ X Y).1 (divQ X Y).2 = true ∧ numB (divR X Y).1 (divR X Y).2 = true
    · rw [if_pos h]; exact .inl ⟨h.1, h.2, rfl, rfl, rfl⟩
    · rw [if_neg h]; exact .inr ⟨rfl, rfl, rfl⟩
  have hXb : ∃ b1 b2 : Bool, (Y.1 == 0) = b1 ∧ (Y.2 == 0) = b2 ∧ (b1 && b2) = false := ⟨_, _, rfl, rfl, by
    cases h1 : (Y.1 == 0) <;> cases h2 : (Y.2 == 0) <;> simp_all
    exact hy0 (Prod.ext h1 h2)⟩
  obtain ⟨b1', b2', hb1', hb2', hb⟩ := hXb
  generalize (dvV X Y).1 = qv at *
  generalize (dvV X Y).2.1 = rv at *
  generalize (dvV X Y).2.2 = ee at *
  generalize divR X Y = u at *
  generalize divQ X Y = v at *
  generalize timesG Z Y = ZY at *
  have HS := Lib.hid hsum
  have HH := Lib.hid hhalf
  have HV := Lib.hid hv
  have HX := Lib.hid hX
  have HY := Lib.hid hY
  have HN := Lib.hid hNy
  have H1 := Lib.hid hD1
  have H2 := Lib.hid hD2
  have NY := Lib.hid nY
  clear hX hY nX nY hy0 hZ hZY hsum hhalf hNy hv hD1 hD2
  obtain ⟨W, hW⟩ : ∃ W, ((w.alloc (.cells #[.int .i64 x.1, .int .i64 x.2] 23)).alloc (.cells #[.int .i64 y.1, .int .i64 y.2] 23)) = W := ⟨_, rfl⟩
  have x0 : At W (w.heap.size) 23 (gv x) := by rw [← hW]; exact (At.new w _ _).alloc _
  have y0 : At W (w.heap.size + 1) 23 (gv y) := by rw [← hW]; exact At.new2 w _ _ _
  have k0 : Keeps w W := by rw [← hW]; exact Keeps.alloc (Keeps.alloc (Below.refl _ _) _) _
  have HW := Lib.hid hW
  clear hW
  change Calls Tryd.prog 7 #[.agg #[.int .i64 x.1, .int .i64 x.2], .agg #[.int .i64 y.1, .int .i64 y.2]] w _
  go_enter Tryd.func7, Tryd.ntmps7
  go_upto_region 1 with (fail)
  rw [HW.out]
  clear HW
  refine region_any_inv (G := Unit) (f := ?f) (fun _ => [.agg (gv x), .agg #[.int .i64 X.1, .int .i64 X.2], .agg (gv y), .agg #[.int .i64 Y.1, .int .i64 Y.2], undef, undef])
    (fun _ L w' => Keeps w w' ∧ At w' (w.heap.size) 23 (gv (if L 4 = true then X else x)) ∧ At w' (w.heap.size + 1) 23 (gv (if L 5 = true then Y else y)))
    () (fun _ => ?hf) (by kernel_rfl) (by kernel_rfl) ⟨k0.dr, x0.drew, y0.drew⟩ ?steps ?fin
  case hf =>
    simp only [fill, List.toList_toArray, List.zip_cons_cons, List.zip_nil_left, List.zip_nil_right, List.foldl_cons, List.foldl_nil, Act.put, List.setIfInBounds_toArray, List.set_cons_succ, List.set_cons_zero]
    exact rfl
  case steps =>
    have n01 : w.heap.size ≠ w.heap.size + 1 := by omega
    have l0 : w.heap.size ≤ w.heap.size := by omega
    have n10 : w.heap.size + 1 ≠ w.heap.size := by omega
    have l1 : w.heap.size ≤ w.heap.size + 1 := by omega
    refine StepsU.cons rfl (fun g L w' hL hr hc hF => ?_) ?_
    · have e := hc.not 4 0 rfl rfl hL
      obtain ⟨k1, x1, y1⟩ := hF
      have h1 := x1
      rw [e, if_neg (by simp)] at h1
      obtain ⟨p1, p2, p3, p4⟩ := row_four h1
      refine StepU.go rfl (fun K hK => ?_)
      clear aw c2 t3 c5 m1 i5 t1 t2
      go_simp
      exact hK () _ ⟨k1, x1, y1⟩
    refine StepsU.cons rfl (fun g L w' hL hr hc hF => ?_) ?_
    · obtain ⟨k1, x1, y1⟩ := hF
      refine StepU.go rfl (fun K hK => ?_)
      clear aw c2 t3 c5 m1 i5
      go_simp
      refine (t1 _).mono ?_
      rintro e w2 ⟨rfl, b1⟩
      exact hK () _ ⟨Keeps.next k1 b1, x1.later b1, y1.later b1⟩
    refine StepsU.cons rfl (fun g L w' hL hr hc hF => ?_) ?_
    · have e := hc.not 5 2 rfl rfl hL
      obtain ⟨k1, x1, y1⟩ := hF
      have h1 := y1
      rw [e, if_neg (by simp)] at h1
      obtain ⟨p1, p2, p3, p4⟩ := row_four h1
      refine StepU.go rfl (fun K hK => ?_)
      clear aw c2 t3 c5 m1 i5 t1 t2
      go_simp
      exact hK () _ ⟨k1, x1, y1⟩
    refine StepsU.cons rfl (fun g L w' hL hr hc hF => ?_) ?_
    · obtain ⟨k1, x1, y1⟩ := hF
      refine StepU.go rfl (fun K hK => ?_)
      clear aw c2 t3 c5 m1 i5
      go_simp
      refine (t2 _).mono ?_
      rintro e w2 ⟨rfl, b1⟩
      exact hK () _ ⟨Keeps.next k1 b1, x1.later b1, y1.later b1⟩
    refine StepsU.cons rfl (fun g L w' hL hr hc hF => ?_) ?_
    · obtain ⟨k1, x1, y1⟩ := hF
      have h1 := x1
      rw [hL, if_neg (by simp)] at h1
      obtain ⟨p1, p2, p3, p4⟩ := row_four h1
      refine StepU.go rfl (fun K hK => ?_)
      clear aw c2 t3 c5 m1 i5 t1 t2
      go_simp
      refine hK () _ ?_
      exact ⟨Keeps.set (Keeps.set k1 _ l0 _ _) _ l0 _ _, by rw [if_pos (add_same L _)]; exact (h1.set 0 _).set 1 _, (y1.far n10 _).far n10 _⟩
    refine StepsU.cons rfl (fun g L w' hL hr hc hF => ?_) ?_
    · obtain ⟨k1, x1, y1⟩ := hF
      have h1 := y1
      rw [hL, if_neg (by simp)] at h1
      obtain ⟨p1, p2, p3, p4⟩ := row_four h1
      refine StepU.go rfl (fun K hK => ?_)
      clear aw c2 t3 c5 m1 i5 t1 t2
      go_simp
      refine hK () _ ?_
      exact ⟨Keeps.set (Keeps.set k1 _ l1 _ _) _ l1 _ _, (x1.far n01 _).far n01 _, by rw [if_pos (add_same L _)]; exact (h1.set 0 _).set 1 _⟩
    exact StepsU.nil (by simp)
  case fin =>
  intro g L w0 hall hF
  clear x0 y0 k0
  obtain ⟨k0, x0, y0⟩ := hF
  rw [hall 4 (by simp), if_pos rfl] at x0
  rw [hall 5 (by simp), if_pos rfl] at y0
  clear hall t1 t2
  go_upto_region 2 with (fail)
  go_cut [25] (fun v25 wr => v25 = .bool false ∧ wr = w0)
  case first =>
    clear aw c2 t3 c5 m1 i5
    cases b1' <;> cases b2'
    case true.true => simp at hb
    all_goals
      go_wp2_with (refine load_row_w rfl 23 _ rfl _ rfl 23 #[.int .i64 Y.1, .int .i64 Y.2] _ _ y0 Tryd.underlying23 rfl (sizeG _ _) ?_)
      go_meet
      exact ⟨rfl, rfl⟩
  case rest =>
  obtain ⟨rfl, rfl⟩ := hcut
  clear hb1' hb2' hb
  go_upto_region 6 with (first
    | (refine load_row_w rfl 23 _ rfl _ rfl 23 _ _ _ x0 Tryd.underlying23 rfl (sizeV _) ?_)
    | (refine load_row_w rfl 23 _ rfl _ rfl 23 _ _ _ y0 Tryd.underlying23 rfl (sizeV _) ?_)
    | (go_at_call 9
       refine (c2 _).mono ?_
       rintro e w1 ⟨rfl, bl1⟩
       have ga1 : At ((w1.alloc (.cells (gv (0, 0)) 23)).alloc (.cells (gv (0, 0)) 23)) w1.heap.size 23 (gv (0, 0)) := (At.new w1 _ _).alloc _
       have sa1 : At ((w1.alloc (.cells (gv (0, 0)) 23)).alloc (.cells (gv (0, 0)) 23)) (w1.heap.size + 1) 23 (gv (0, 0)) := At.new2 w1 _ _ _
       have sb1 := sa1.rowfar (by omega) (gv qv) (g' := w1.heap.size)
       have g1 := (ga1.row (gv qv)).rowfar (by omega) (gv rv) (g' := w1.heap.size + 1)
       have s1 := sb1.row (gv rv)
       have dd := below_row (below_row (Keeps.alloc (Keeps.alloc bl1 (.cells (gv (0, 0)) 23)) (.cells (gv (0, 0)) 23)) bl1.size (gv qv)) (Nat.le_succ_of_le bl1.size) (gv rv)
       have x1 := x0.later dd
       have y1 := y0.later dd
       have k1 := Keeps.next k0 dd
       clear c2 x0 y0)
    | (refine wpList_store_row rfl 23 _ _ rfl (w1.heap.size) (gv qv) rfl rfl 23 (gv (0, 0)) ga1 (sizeV _) rfl (oneV _) ?_)
    | (refine wpList_store_row rfl 23 _ _ rfl (w1.heap.size + 1) (gv rv) rfl rfl 23 (gv (0, 0)) sb1 (sizeV _) rfl (oneV _) ?_))
  rcases HV.out with ⟨nv, nu, rfl, rfl, rfl⟩ | ⟨rfl, rfl, rfl⟩
  rotate_left
  · clear t3 c5 m1 i5
    go_wp2_with (go_at_call 11; refine (aw _).mono ?_; rintro e w9 ⟨rfl, b9⟩)
    go_ret
    exact ⟨rfl, Keeps.next k1 b9⟩
  clear HV
  generalize w1.heap.size = B1 at *
  have hY := HY.out
  have i3 : ∀ z, Calls Tryd.prog 10 #[.agg #[.int .i64 qv.1, .int .i64 qv.2]] z fun e w' => e = .returned (.bool true) ∧ Keeps z w' := fun z => by rw [← nv]; exact refNumber_v qv z
  have i4 : ∀ z, Calls Tryd.prog 10 #[.agg #[.int .i64 rv.1, .int .i64 rv.2]] z fun e w' => e = .returned (.bool true) ∧ Keeps z w' := fun z => by rw [← nu]; exact refNumber_v rv z
  have m2 : ∀ z, Calls Tryd.prog 14 #[.agg #[.int .i64 qv.1, .int .i64 qv.2], .agg #[.int .i64 Y.1, .int .i64 Y.2]] z fun e w' => e = .returned (.agg #[.int .i64 (timesG qv Y).1, .int .i64 (timesG qv Y).2]) ∧ Keeps z w' := fun z => refTimes_v qv Y (sm2_mono (sm2_of nv) (by decide)) (sm2_mono hY (by decide)) z
  have m3 : ∀ z, Calls Tryd.prog 17 #[.agg #[.int .i64 (timesG qv Y).1, .int .i64 (timesG qv Y).2], .agg #[.int .i64 rv.1, .int .i64 rv.2]] z fun e w' => e = .returned (.agg #[.int .i64 X.1, .int .i64 X.2]) ∧ Keeps z w' := fun z => by
    have h := refPlus_v (timesG qv Y) rv (sm2_mono (sm2_times (sm2_of nv) hY (by decide) (by decide)) (by decide)) (sm2_mono (sm2_of nu) (by decide)) z
    rw [HS.out.1, HS.out.2] at h
    exact h
  have n1 := fun z => Norm_yes rv nu z
  have n2 := fun z => Norm_yes Y NY.out z
  have ha := sm_norm (sm2_of nu)
  have hb := sm_norm (sm2_of NY.out)
  have hn := HN.out
  have hh := HH.out
  generalize normG rv = a at *
  generalize normG Y = b at *
  unfold sm at ha hb
  have q1 : IntKind.i64.wrap (-a) = -a := IntWalk.i64_in _ (by omega)
  have q2 : IntKind.i64.wrap (-b) = -b := IntWalk.i64_in _ (by omega)
  have f1 : decide (max b (-b) ≤ max a (-a)) = false := by simp only [decide_eq_false_iff_not]; omega
  have F1 := Lib.hid f1
  clear HS HH HY HN NY hY nv nu ha hb hn hh f1
  go_upto_region 8 with (fail)
  generalize hWA : (((w1.alloc (.cells #[.int .i64 0, .int .i64 0] 23)).alloc (.cells #[.int .i64 0, .int .i64 0] 23)).setRow B1 (gv qv)).setRow (B1 + 1) (gv rv) = WA
  have x2 : At WA w.heap.size 23 (gv X) := by rw [← hWA]; exact x1
  have y2 : At WA (w.heap.size + 1) 23 (gv Y) := by rw [← hWA]; exact y1
  have g2 : At WA B1 23 (gv qv) := by rw [← hWA]; exact g1
  have s2 : At WA (B1 + 1) 23 (gv rv) := by rw [← hWA]; exact s1
  have k2 : Keeps w WA := by rw [← hWA]; exact k1
  clear hWA x1 y1 g1 s1 k1 ga1 sa1 sb1
  obtain ⟨x2a, x2b⟩ := cells_gv x2
  obtain ⟨y2a, y2b⟩ := cells_gv y2
  obtain ⟨g2a, g2b⟩ := cells_gv g2
  obtain ⟨s2a, s2b⟩ := cells_gv s2
  have Sof : ∀ w', Keeps WA w' → (w'.cell? ⟨w.heap.size, 0, none⟩ = some (.int .i64 X.1) ∧ w'.cell? ⟨w.heap.size, 1, none⟩ = some (.int .i64 X.2) ∧ w'.cell? ⟨w.heap.size + 1, 0, none⟩ = some (.int .i64 Y.1) ∧ w'.cell? ⟨w.heap.size + 1, 1, none⟩ = some (.int .i64 Y.2) ∧ w'.cell? ⟨B1, 0, none⟩ = some (.int .i64 qv.1) ∧ w'.cell? ⟨B1, 1, none⟩ = some (.int .i64 qv.2) ∧ w'.cell? ⟨B1 + 1, 0, none⟩ = some (.int .i64 rv.1) ∧ w'.cell? ⟨B1 + 1, 1, none⟩ = some (.int .i64 rv.2)) :=
    fun w' h => ⟨cell_keep (w := WA) x2a h, cell_keep (w := WA) x2b h, cell_keep (w := WA) y2a h, cell_keep (w := WA) y2b h, cell_keep (w := WA) g2a h, cell_keep (w := WA) g2b h, cell_keep (w := WA) s2a h, cell_keep (w := WA) s2b h⟩
  have SOf := Lib.hid Sof
  have kk : Keeps WA WA := Below.refl _ _
  clear Sof x2a x2b y2a y2b g2a g2b s2a s2b
  go_cut [68] (fun v68 wr => v68 = .bool false ∧ Keeps WA wr)
  case first =>
    clear aw t3 c5 m1 i5 n1 n2 F1 q1 q2
    go_region_held3 (fun w' => w'.cell? ⟨w.heap.size, 0, none⟩ = some (.int .i64 X.1) ∧ w'.cell? ⟨w.heap.size, 1, none⟩ = some (.int .i64 X.2) ∧ w'.cell? ⟨w.heap.size + 1, 0, none⟩ = some (.int .i64 Y.1) ∧ w'.cell? ⟨w.heap.size + 1, 1, none⟩ = some (.int .i64 Y.2) ∧ w'.cell? ⟨B1, 0, none⟩ = some (.int .i64 qv.1) ∧ w'.cell? ⟨B1, 1, none⟩ = some (.int .i64 qv.2) ∧ w'.cell? ⟨B1 + 1, 0, none⟩ = some (.int .i64 rv.1) ∧ w'.cell? ⟨B1 + 1, 1, none⟩ = some (.int .i64 rv.2))
      (first | exact SOf.out _ (Keeps.dr kk) | exact SOf.out _ kk | fail)
      (first
        | (go_at_call 10; (with_reducible refine (i3 _).mono ?_); rintro e wz ⟨rfl, bz⟩; first | (have kk := Keeps.next (Keeps.dr kk) bz) | (have kk := Keeps.next kk bz))
        | (go_at_call 10; (with_reducible refine (i4 _).mono ?_); rintro e wz ⟨rfl, bz⟩; first | (have kk := Keeps.next (Keeps.dr kk) bz) | (have kk := Keeps.next kk bz))
        | (go_at_call 14; (with_reducible refine (m2 _).mono ?_); rintro e wz ⟨rfl, bz⟩; first | (have kk := Keeps.next (Keeps.dr kk) bz) | (have kk := Keeps.next kk bz))
        | (go_at_call 17; (with_reducible refine (m3 _).mono ?_); rintro e wz ⟨rfl, bz⟩; first | (have kk := Keeps.next (Keeps.dr kk) bz) | (have kk := Keeps.next kk bz)))
    all_goals
      go_wp2_with fail
      go_meet
      exact ⟨rfl, kk⟩
  case rest =>
  obtain ⟨rfl, hk⟩ := hcut
  have x3 := x2.later hk
  have y3 := y2.later hk
  have s3 := s2.later hk
  have k3 := Keeps.next k2 hk
  clear kk SOf hk x2 y2 g2 s2 k2 i3 i4 m2 m3
  generalize wc = wd at *
  go_upto_region 11 with (first
    | (refine load_row_w rfl 23 _ rfl _ rfl 23 _ _ _ s3 Tryd.underlying23 rfl (sizeV _) ?_)
    | (go_at_call 22
       (with_reducible refine (n1 _).mono ?_)
       rintro e w4 ⟨rfl, bl4⟩
       have x4 := x3.later bl4
       have y4 := y3.later bl4
       have k4 := Keeps.next k3 bl4
       clear n1 x3 y3))
  go_upto_region 12 with (first
    | (refine load_row_w rfl 23 _ rfl _ rfl 23 _ _ _ y4 Tryd.underlying23 rfl (sizeV _) ?_)
    | (go_at_call 22
       (with_reducible refine (n2 _).mono ?_)
       rintro e w5 ⟨rfl, bl5⟩
       have x5 := x4.later bl5
       have y5 := y4.later bl5
       have k5 := Keeps.next k4 bl5
       clear n2 x4 y4))
  go_cut [95] (fun v95 wr => v95 = .bool false ∧ wr = w5)
  case first =>
    have f1 := F1.out
    clear aw t3 c5 m1 i5
    go_wp2_with fail
    all_goals
      go_meet
      exact ⟨rfl, rfl⟩
  case rest =>
  obtain ⟨rfl, rfl⟩ := hcut
  clear q1 q2 F1 s3
  generalize wc = w5 at *
  go_upto_region 15 with (first
    | (refine load_row_w rfl 23 _ rfl _ rfl 23 _ _ _ x5 Tryd.underlying23 rfl (sizeV _) ?_)
    | (go_at_call 15
       (with_reducible refine (t3 _).mono ?_)
       rintro e w6 ⟨rfl, bl6⟩
       have rw6 := At.new w6 23 (gv (0, 0))
       have z6 := rw6.row (gv Z)
       have dw6 := below_row (Keeps.alloc bl6 (.cells (gv (0, 0)) 23)) bl6.size (gv Z)
       have x6 := x5.later dw6
       have y6 := y5.later dw6
       have k6 := Keeps.next k5 dw6
       clear t3 x5 y5)
    | (refine wpList_store_row rfl 23 _ _ rfl _ (gv Z) rfl rfl 23 (gv (0, 0)) rw6 (sizeV _) rfl (oneV _) ?_))
  rw [← gv_zero] at x6 y6 z6 k6
  generalize hWB : (w6.alloc (.cells #[.int .i64 0, .int .i64 0] 23)).setRow w6.heap.size (gv Z) = WB at *
  generalize w6.heap.size = B6 at *
  clear hWB
  refine region_any_inv (G := Nat × Nat) (f := ?f2) (fun g => [.agg #[.int .i64 Z.1, .int .i64 Z.2], .agg #[.int .i64 Y.1, .int .i64 Y.2], .agg #[.int .i64 ZY.1, .int .i64 ZY.2], .agg #[.int .i64 Y.1, .int .i64 Y.2],
      .tuple #[.agg #[.int .i64 pv.1, .int .i64 pv.2], .agg #[.int .i64 sv.1, .int .i64 sv.2], .int .i64 e5], .tuple #[.agg #[.int .i64 pv.1, .int .i64 pv.2], .agg #[.int .i64 sv.1, .int .i64 sv.2], .int .i64 e5],
      .agg #[.int .i64 pv.1, .int .i64 pv.2], .agg #[.int .i64 sv.1, .int .i64 sv.2], .int .i64 e5, .pointer (some ⟨g.1, 0, none⟩), .pointer (some ⟨g.2, 0, none⟩), undef, undef, .int .i64 e5])
    (fun g L w' => Keeps WB w' ∧ (L 9 = true → WB.heap.size ≤ g.1 ∧ At w' g.1 23 (gv (if L 11 = true then pv else (0, 0)))) ∧ (L 10 = true → WB.heap.size ≤ g.2 ∧ At w' g.2 23 (gv (if L 12 = true then sv else (0, 0)))) ∧ (L 9 = true → L 10 = true → g.1 ≠ g.2))
    (0, 0) (fun _ => ?hf2) (by kernel_rfl) (by kernel_rfl) ⟨Keeps.dr (Below.refl _ _), fun h => (by cases h), fun h => (by cases h), fun h => (by cases h)⟩ ?steps2 ?fin2
  case hf2 =>
    simp only [fill, List.toList_toArray, List.zip_cons_cons, List.zip_nil_left, List.zip_nil_right, List.foldl_cons, List.foldl_nil, Act.put, List.setIfInBounds_toArray, List.set_cons_succ, List.set_cons_zero]
    exact rfl
  case steps2 =>
    refine StepsU.cons rfl (fun g L w' hL hr hc hF => ?_) ?_
    · obtain ⟨k1, h9, h10, hne⟩ := hF
      obtain ⟨p1, p2, p3, p4⟩ := row_four (z6.later k1)
      refine StepU.go rfl (fun K hK => ?_)
      clear aw m1 i5 c5
      go_simp
      exact hK g _ ⟨k1, h9, h10, hne⟩
    refine StepsU.cons rfl (fun g L w' hL hr hc hF => ?_) ?_
    · obtain ⟨k1, h9, h10, hne⟩ := hF
      obtain ⟨p1, p2, p3, p4⟩ := row_four (y6.later k1)
      refine StepU.go rfl (fun K hK => ?_)
      clear aw m1 i5 c5
      go_simp
      exact hK g _ ⟨k1, h9, h10, hne⟩
    refine StepsU.cons rfl (fun g L w' hL hr hc hF => ?_) ?_
    · obtain ⟨k1, h9, h10, hne⟩ := hF
      refine StepU.go rfl (fun K hK => ?_)
      clear aw i5
      go_simp
      refine (m1 _).mono ?_
      rintro e w2 ⟨rfl, b1⟩
      exact hK g _ ⟨Keeps.next k1 b1, fun h => ⟨(h9 h).1, (h9 h).2.later b1⟩, fun h => ⟨(h10 h).1, (h10 h).2.later b1⟩, hne⟩
    refine StepsU.cons rfl (fun g L w' hL hr hc hF => ?_) ?_
    · obtain ⟨k1, h9, h10, hne⟩ := hF
      obtain ⟨p1, p2, p3, p4⟩ := row_four (y6.later k1)
      refine StepU.go rfl (fun K hK => ?_)
      clear aw m1 i5 c5
      go_simp
      exact hK g _ ⟨k1, h9, h10, hne⟩
    refine StepsU.cons rfl (fun g L w' hL hr hc hF => ?_) ?_
    · obtain ⟨k1, h9, h10, hne⟩ := hF
      refine StepU.go rfl (fun K hK => ?_)
      clear aw i5
      go_simp
      refine (c5 _).mono ?_
      rintro e w2 ⟨rfl, b1⟩
      exact hK g _ ⟨Keeps.next k1 b1, fun h => ⟨(h9 h).1, (h9 h).2.later b1⟩, fun h => ⟨(h10 h).1, (h10 h).2.later b1⟩, hne⟩
    refine StepsU.cons rfl (fun g L w' hL hr hc hF => ?_) ?_
    · obtain ⟨k1, h9, h10, hne⟩ := hF
      refine StepU.go rfl (fun K hK => ?_)
      clear aw m1 i5 c5
      go_simp
      exact hK g _ ⟨k1, h9, h10, hne⟩
    refine StepsU.cons rfl (fun g L w' hL hr hc hF => ?_) ?_
    · obtain ⟨k1, h9, h10, hne⟩ := hF
      refine StepU.go rfl (fun K hK => ?_)
      clear aw m1 i5 c5
      go_simp
      exact hK g _ ⟨k1, h9, h10, hne⟩
    refine StepsU.cons rfl (fun g L w' hL hr hc hF => ?_) ?_
    · obtain ⟨k1, h9, h10, hne⟩ := hF
      refine StepU.go rfl (fun K hK => ?_)
      clear aw m1 i5 c5
      go_simp
      exact hK g _ ⟨k1, h9, h10, hne⟩
    refine StepsU.cons rfl (fun g L w' hL hr hc hF => ?_) ?_
    · obtain ⟨k1, h9, h10, hne⟩ := hF
      refine StepU.go rfl (fun K hK => ?_)
      clear aw m1 i5 c5
      go_simp
      exact hK g _ ⟨k1, h9, h10, hne⟩
    refine StepsU.cons rfl (fun g L w' hL hr hc hF => ?_) ?_
    · obtain ⟨k1, h9, h10, hne⟩ := hF
      have e := hc.not 11 9 rfl rfl hL
      refine StepU.go rfl (fun K hK => ?_)
      clear aw m1 i5 c5
      go_simp
      refine hK (w'.heap.size, g.2) _ ?_
      refine ⟨Keeps.alloc k1 _, fun _ => ⟨k1.size, ?_⟩, fun h => ⟨(h10 h).1, (h10 h).2.alloc _⟩, fun _ h => ?_⟩
      · rw [show add L _ 11 = L 11 from add_other L _ 11 (by decide), e, if_neg (by simp)]; exact At.new _ _ _
      · have := (h10 h).2.lt
        exact Nat.ne_of_gt this
    refine StepsU.cons rfl (fun g L w' hL hr hc hF => ?_) ?_
    · obtain ⟨k1, h9, h10, hne⟩ := hF
      have e := hc.not 12 10 rfl rfl hL
      refine StepU.go rfl (fun K hK => ?_)
      clear aw m1 i5 c5
      go_simp
      refine hK (g.1, w'.heap.size) _ ?_
      refine ⟨Keeps.alloc k1 _, fun h => ⟨(h9 h).1, (h9 h).2.alloc _⟩, fun _ => ⟨k1.size, ?_⟩, fun h _ => ?_⟩
      · rw [show add L _ 12 = L 12 from add_other L _ 12 (by decide), e, if_neg (by simp)]; exact At.new _ _ _
      · have := (h9 h).2.lt
        exact Nat.ne_of_lt this
    refine StepsU.cons rfl (fun g L w' hL hr hc hF => ?_) ?_
    · obtain ⟨k1, h9, h10, hne⟩ := hF
      have hb := hr 9 rfl
      obtain ⟨hle, hA⟩ := h9 hb
      have hne2 : ∀ h, _ := fun h => (hne hb h).symm
      rw [hL, if_neg (by simp)] at hA
      obtain ⟨p1, p2, p3, p4⟩ := row_four hA
      refine StepU.go rfl (fun K hK => ?_)
      clear aw m1 i5 c5
      go_simp
      refine hK g _ ?_
      exact ⟨Keeps.set (Keeps.set k1 _ hle _ _) _ hle _ _, fun _ => ⟨hle, by rw [if_pos (add_same L _)]; exact (hA.set 0 _).set 1 _⟩, fun h => ⟨(h10 h).1, (((h10 h).2.far (hne2 h) _).far (hne2 h) _)⟩, hne⟩
    refine StepsU.cons rfl (fun g L w' hL hr hc hF => ?_) ?_
    · obtain ⟨k1, h9, h10, hne⟩ := hF
      have hb := hr 10 rfl
      obtain ⟨hle, hA⟩ := h10 hb
      have hne2 : ∀ h, _ := fun h => hne h hb
      rw [hL, if_neg (by simp)] at hA
      obtain ⟨p1, p2, p3, p4⟩ := row_four hA
      refine StepU.go rfl (fun K hK => ?_)
      clear aw m1 i5 c5
      go_simp
      refine hK g _ ?_
      exact ⟨Keeps.set (Keeps.set k1 _ hle _ _) _ hle _ _, fun h => ⟨(h9 h).1, (((h9 h).2.far (hne2 h) _).far (hne2 h) _)⟩, fun _ => ⟨hle, by rw [if_pos (add_same L _)]; exact (hA.set 0 _).set 1 _⟩, hne⟩
    refine StepsU.cons rfl (fun g L w' hL hr hc hF => ?_) ?_
    · obtain ⟨k1, h9, h10, hne⟩ := hF
      refine StepU.go rfl (fun K hK => ?_)
      clear aw m1 i5 c5
      go_simp
      exact hK g _ ⟨k1, h9, h10, hne⟩
    exact StepsU.nil (by simp)
  case fin2 =>
  intro g L w7 hall hF
  obtain ⟨k1, h9, h10, hne⟩ := hF
  obtain ⟨_, a7⟩ := h9 (hall 9 (by simp))
  obtain ⟨_, s7⟩ := h10 (hall 10 (by simp))
  rw [hall 11 (by simp), if_pos rfl] at a7
  rw [hall 12 (by simp), if_pos rfl] at s7
  have z7 := z6.later k1
  have y7 := y6.later k1
  have k7 := Keeps.next k6 k1
  clear k1 h9 h10 hne hall c5 z6 y6 x6 k6
  obtain ⟨g, h⟩ := g
  simp only at a7 s7
  cases hZ : numB ZY.1 ZY.2
  · obtain rfl := H2.out hZ
    rw [hZ] at i5
    go_wp2_with (first
      | (refine load_row_w rfl 23 _ rfl _ rfl 23 #[.int .i64 Z.1, .int .i64 Z.2] _ _ z7 Tryd.underlying23 rfl (sizeG _ _) ?_)
      | (refine load_row_w rfl 23 _ rfl _ rfl 23 #[.int .i64 Y.1, .int .i64 Y.2] _ _ y7 Tryd.underlying23 rfl (sizeG _ _) ?_)
      | (go_at_call 14; (with_reducible refine (m1 _).mono ?_); rintro e w8 ⟨rfl, b8⟩; have z8 := z7.later b8; have a8 := a7.later b8; have s8 := s7.later b8; have k8 := Keeps.next k7 b8; clear m1 z7 a7 s7)
      | (go_at_call 10; (with_reducible refine (i5 _).mono ?_); rintro e wa ⟨rfl, ba⟩; have za := z8.later ba; have aa := a8.later ba; have sa := s8.later ba; have ka := Keeps.next k8 ba; clear i5 z8 a8 s8)
      | (go_at_call 11; refine (aw _).mono ?_; rintro e w9 ⟨rfl, b9⟩))
    go_ret
    exact ⟨rfl, Keeps.next ka b9⟩
  · obtain ⟨rfl, rfl, rfl⟩ := H1.out hZ
    rw [hZ] at i5
    go_wp2_with (first
      | (refine load_row_w rfl 23 _ rfl _ rfl 23 #[.int .i64 pv.1, .int .i64 pv.2] _ _ z7 Tryd.underlying23 rfl (sizeG _ _) ?_)
      | (refine load_row_w rfl 23 _ rfl _ rfl 23 #[.int .i64 Y.1, .int .i64 Y.2] _ _ y7 Tryd.underlying23 rfl (sizeG _ _) ?_)
      | (go_at_call 14; (with_reducible refine (m1 _).mono ?_); rintro e w8 ⟨rfl, b8⟩; have z8 := z7.later b8; have a8 := a7.later b8; have s8 := s7.later b8; have k8 := Keeps.next k7 b8; clear m1 z7 a7 s7)
      | (go_at_call 10; (with_reducible refine (i5 _).mono ?_); rintro e wa ⟨rfl, ba⟩; have za := z8.later ba; have aa := a8.later ba; have sa := s8.later ba; have ka := Keeps.next k8 ba; clear i5 z8 a8 s8)
      | (refine load_row_w rfl 23 _ rfl _ rfl 23 #[.int .i64 pv.1, .int .i64 pv.2] _ _ aa Tryd.underlying23 rfl (sizeG _ _) ?_)
      | (refine load_row_w rfl 23 _ rfl _ rfl 23 #[.int .i64 pv.1, .int .i64 pv.2] _ _ za Tryd.underlying23 rfl (sizeG _ _) ?_)
      | (refine load_row_w rfl 23 _ rfl _ rfl 23 #[.int .i64 0, .int .i64 0] _ _ sa Tryd.underlying23 rfl (sizeG _ _) ?_)
      | (go_at_call 11; refine (aw _).mono ?_; rintro e w9 ⟨rfl, b9⟩))
    go_ret
    exact ⟨rfl, Keeps.next ka b9⟩
theorem law_left (a b c d : Int) (w : World) : Calls Tryd.prog 7 #[.agg #[.int .i64 a, .int .i64 b], .agg #[.int .i64 c, .int .i64 d]] w fun e w' => e = .returned (.bool true) ∧ Keeps w w' := by
  by_cases hy0 : tameG 1000 (c, d) = (0, 0)
  · exact left_zero (a, b) (c, d) hy0 w
  · exact left_num (a, b) (c, d) hy0 w
end Go.Proofs.YtahkoihlpkaohaaDoor
