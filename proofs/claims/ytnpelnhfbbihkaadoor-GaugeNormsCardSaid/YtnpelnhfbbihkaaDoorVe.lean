/- The law GaugeNorms. -/
import Derived.Test.YtnpelnhfbbihkaaDoorVd
namespace Go.Proofs.YtnpelnhfbbihkaaDoor
open Go.RowKit
set_option linter.unusedVariables false
set_option linter.unusedSimpArgs false

set_option maxHeartbeats 4000000 in
set_option maxRecDepth 100000 in
theorem norms_v (x y : Int × Int) (w : World) :
    Calls Tryd.prog 8 #[.agg (gv x), .agg (gv y)] w fun e w' => e = .returned (.bool true) ∧ Keeps w w' := by
  have aw := fun z => awake_c z
  have t1 := fun z => tame_c x 300 (by decide) (by decide) z
  have t2 := fun z => tame_c y 300 (by decide) (by decide) z
  have hX := tame_sm 300 (by decide) x
  have hY := tame_sm 300 (by decide) y
  generalize tameG 300 x = X at *
  generalize tameG 300 y = Y at *
  have t1 : ∀ z, Calls Tryd.prog 26 #[.agg #[.int .i64 x.1, .int .i64 x.2], .int .i64 300] z fun e w' => e = .returned (.agg #[.int .i64 X.1, .int .i64 X.2]) ∧ Keeps z w' := t1
  have t2 : ∀ z, Calls Tryd.prog 26 #[.agg #[.int .i64 y.1, .int .i64 y.2], .int .i64 300] z fun e w' => e = .returned (.agg #[.int .i64 Y.1, .int .i64 Y.2]) ∧ Keeps z w' := t2
  obtain ⟨hZ, hM, hN, ha, hb⟩ := norms_rest X Y hX hY
  have nX := num_of (sm2_mono hX (by decide))
  have nY := num_of (sm2_mono hY (by decide))
  have nZ := num_of (sm2_mono hZ (by decide))
  have nM := num_of (sm2_mono hM (by decide))
  have nN := num_of (sm2_mono hN (by decide))
  have nT : numB (mateG (timesG X Y)).1 (mateG (timesG X Y)).2 = true := num_of (by unfold sm2 sm mateG at *; simp only; omega)
  have nA : numB (normG X) 0 = true := by rw [numB_iff]; unfold sm at ha; omega
  have pz := fun z => Product_yes X Y nX nY _ rfl nZ z
  have nx := fun z => Norm_yes X nX z
  have ny := fun z => Norm_yes Y nY z
  have nz := fun z => Norm_yes (timesG X Y) nZ z
  rw [norm_times] at nz
  have mx := fun z => Mate_num X nX _ rfl nM z
  have my := fun z => Mate_num Y nY _ rfl nN z
  have mm := fun z => Mate_num (mateG X) nM X (mate_mate X) nX z
  have pxm := fun z => Product_yes X (mateG X) nX nM (normG X, 0) (times_mate X) nA z
  have pmn := fun z => Product_yes (mateG X) (mateG Y) nM nN (mateG (timesG X Y)) (mate_times X Y) nT z
  have mz := fun z => Mate_num (timesG X Y) nZ (mateG (timesG X Y)) rfl nT z
  clear nX nY nZ nM nN nT nA hX hY hZ hM hN
  generalize mateG (timesG X Y) = T at *
  generalize timesG X Y = Z at *
  generalize mateG X = M at *
  generalize mateG Y = N at *
  generalize normG X = a at *
  generalize normG Y = b at *
  have hab := sm_mul _ _ _ _ ha hb (by decide) (by decide)
  unfold sm at ha hb hab
  have q1 : IntKind.i64.wrap (-a) = -a := IntWalk.i64_in _ (by omega)
  have q2 : IntKind.i64.wrap (-b) = -b := IntWalk.i64_in _ (by omega)
  have q3 : IntKind.i64.wrap (a * b) = a * b := IntWalk.i64_in _ (by omega)
  have f1 : decide (1073741824 < max a (-a)) = false := by simp; omega
  have f2 : decide (1073741824 < max b (-b)) = false := by simp; omega
  clear ha hb hab
  obtain ⟨W, hW⟩ : ∃ W, ((w.alloc (.cells #[.int .i64 x.1, .int .i64 x.2] 23)).alloc (.cells #[.int .i64 y.1, .int .i64 y.2] 23)) = W := ⟨_, rfl⟩
  have x0 : At W w.heap.size 23 (gv x) := by rw [← hW]; exact (At.new w _ _).alloc _
  have y0 : At W (w.heap.size + 1) 23 (gv y) := by rw [← hW]; exact At.new2 w _ _ _
  have k0 : Keeps w W := by rw [← hW]; exact Keeps.alloc (Keeps.alloc (Below.refl _ _) _) _
  have HW := Lib.hid hW
  clear hW
  change Calls Tryd.prog 8 #[.agg #[.int .i64 x.1, .int .i64 x.2], .agg #[.int .i64 y.1, .int .i64 y.2]] w _
  go_enter Tryd.func8, Tryd.ntmps8
  go_upto_region 1 with (fail)
  rw [HW.out]
  go_cut [4] (fun v4 wr => v4 = .bool false ∧ At wr w.heap.size 23 (gv X) ∧ At wr (w.heap.size + 1) 23 (gv Y) ∧ Keeps w wr)
  case first =>
    clear pz nx ny nz mx my mm pxm pmn mz aw q1 q2 q3 f1 f2
    obtain ⟨p1, p2, p3, p4⟩ := row_four x0
    obtain ⟨p5, p6, p7, p8⟩ := row_four y0
    have n1 : w.heap.size ≠ w.heap.size + 1 := by omega
    have n2 : w.heap.size + 1 ≠ w.heap.size := by omega
    have l1 : w.heap.size ≤ w.heap.size + 1 := by omega
    have xW := x0
    have yW := y0
    have hy : Holds (fun r => r = w.heap.size + 1) W W := Holds.refl _ _
    have hx : Holds (fun r => r = w.heap.size) W W := Holds.refl _ _
    have Sof : ∀ W', Holds (fun r => r = w.heap.size + 1) W W' → (W'.cell? ⟨w.heap.size + 1, 0, none⟩ = some (.int .i64 y.1) ∧ W'.cell? ⟨w.heap.size + 1, 1, none⟩ = some (.int .i64 y.2)) := fun W' h => cells_gv (yW.holds h rfl)
    have SOf := Lib.hid Sof
    clear Sof
    go_region_with
      (first
        | (go_at_call 26
           (with_reducible refine (t1 _).mono ?_)
           rintro e w1 ⟨rfl, b1⟩
           have hy := Holds.next (Holds.drew hy) b1
           have hx := Holds.next (Holds.drew hx) b1
           have x0 := xW.holds hx rfl
           have y0 := yW.holds hy rfl
           have k0 := Keeps.next (Keeps.dr k0) b1
           obtain ⟨p1, p2, p3, p4⟩ := row_four x0
           obtain ⟨p5, p6, p7, p8⟩ := row_four y0)
        | (go_at_call 26
           (with_reducible refine (t2 _).mono ?_)
           rintro e w2 ⟨rfl, b2⟩
           first
             | (have k0 := Keeps.next k0 b2
                have hy := Holds.next hy b2
                have hx := Holds.next hx b2
                have x0 := xW.holds hx rfl
                have y0 := yW.holds hy rfl
                obtain ⟨p1, p2, p3, p4⟩ := row_four x0
                obtain ⟨p5, p6, p7, p8⟩ := row_four y0)
             | (have k0 := Keeps.next (Keeps.set (Keeps.set k0 _ (Nat.le_refl _) _ _) _ (Nat.le_refl _) _ _) b2
                have hy := Holds.next ((hy.set _ n1 _).set _ n1 _) b2
                have x0 := ((x0.set 0 _).set 1 _).later b2
                have y0 := yW.holds hy rfl
                obtain ⟨p5, p6, p7, p8⟩ := row_four y0)))
    all_goals
      go_wp2_with fail
      go_meet
      first
        | exact ⟨rfl, (((x0.set 0 _).set 1 _).far n1 _).far n1 _, (((y0.far n2 _).far n2 _).set 0 _).set 1 _, Keeps.set (Keeps.set (Keeps.set (Keeps.set k0 _ (Nat.le_refl _) _ _) _ (Nat.le_refl _) _ _) _ l1 _ _) _ l1 _ _⟩
        | exact ⟨rfl, (x0.far n1 _).far n1 _, (y0.set 0 _).set 1 _, Keeps.set (Keeps.set k0 _ l1 _ _) _ l1 _ _⟩
  case rest =>
    obtain ⟨rfl, x0, y0, k0⟩ := hcut
    clear t1 t2
    generalize wc = w0 at *
    go_upto_region 3 with (first
      | (refine load_row_w rfl 23 _ rfl _ rfl 23 _ _ _ x0 Tryd.underlying23 rfl (sizeV _) ?_)
      | (refine load_row_w rfl 23 _ rfl _ rfl 23 _ _ _ y0 Tryd.underlying23 rfl (sizeV _) ?_)
      | (go_at_call 20
         (with_reducible refine (pz _).mono ?_)
         rintro e w1 ⟨rfl, b1⟩
         have r1 := At.new w1 23 (gv (0, 0))
         have z1 := r1.row (gv Z)
         have d1 := below_row (Keeps.alloc b1 (.cells (gv (0, 0)) 23)) b1.size (gv Z)
         have x1 := x0.later d1
         have y1 := y0.later d1
         have k1 := Keeps.next k0 d1
         clear pz x0 y0)
      | (refine wpList_store_row rfl 23 _ _ rfl _ (gv Z) rfl rfl 23 (gv (0, 0)) r1 (sizeV _) rfl (oneV _) ?_))
    go_upto_region 4 with (first
      | (refine load_row_w rfl 23 _ rfl _ rfl 23 _ _ _ x1 Tryd.underlying23 rfl (sizeV _) ?_)
      | (go_at_call 15
         (with_reducible refine (nx _).mono ?_)
         rintro e w2 ⟨rfl, b2⟩
         have x2 := x1.later b2
         have y2 := y1.later b2
         have z2 := z1.later b2
         have k2 := Keeps.next k1 b2
         clear nx x1 y1 z1))
    go_upto_region 5 with (first
      | (refine load_row_w rfl 23 _ rfl _ rfl 23 _ _ _ y2 Tryd.underlying23 rfl (sizeV _) ?_)
      | (go_at_call 15
         (with_reducible refine (ny _).mono ?_)
         rintro e w3 ⟨rfl, b3⟩
         have x3 := x2.later b3
         have y3 := y2.later b3
         have z3 := z2.later b3
         have k3 := Keeps.next k2 b3
         clear ny x2 y2 z2))
    go_upto_region 6 with (first
      | (refine load_row_w rfl 23 _ rfl _ rfl 23 _ _ _ z3 Tryd.underlying23 rfl (sizeV _) ?_)
      | (go_at_call 15
         (with_reducible refine (nz _).mono ?_)
         rintro e w4 ⟨rfl, b4⟩
         have x4 := x3.later b4
         have y4 := y3.later b4
         have z4 := z3.later b4
         have k4 := Keeps.next k3 b4
         clear nz x3 y3 z3))
    go_upto_region 7 with (first
      | (refine load_row_w rfl 23 _ rfl _ rfl 23 _ _ _ x4 Tryd.underlying23 rfl (sizeV _) ?_)
      | (go_at_call 16
         (with_reducible refine (mx _).mono ?_)
         rintro e w5 ⟨rfl, b5⟩
         have r5 := At.new w5 23 (gv (0, 0))
         have m5 := r5.row (gv M)
         have d5 := below_row (Keeps.alloc b5 (.cells (gv (0, 0)) 23)) b5.size (gv M)
         have x5 := x4.later d5
         have y5 := y4.later d5
         have z5 := z4.later d5
         have k5 := Keeps.next k4 d5
         clear mx x4 y4 z4)
      | (refine wpList_store_row rfl 23 _ _ rfl _ (gv M) rfl rfl 23 (gv (0, 0)) r5 (sizeV _) rfl (oneV _) ?_))
    go_upto_region 8 with (first
      | (refine load_row_w rfl 23 _ rfl _ rfl 23 _ _ _ y5 Tryd.underlying23 rfl (sizeV _) ?_)
      | (go_at_call 16
         (with_reducible refine (my _).mono ?_)
         rintro e w6 ⟨rfl, b6⟩
         have r6 := At.new w6 23 (gv (0, 0))
         have n6 := r6.row (gv N)
         have d6 := below_row (Keeps.alloc b6 (.cells (gv (0, 0)) 23)) b6.size (gv N)
         have x6 := x5.later d6
         have y6 := y5.later d6
         have z6 := z5.later d6
         have m6 := m5.later d6
         have k6 := Keeps.next k5 d6
         clear my x5 y5 z5 m5)
      | (refine wpList_store_row rfl 23 _ _ rfl _ (gv N) rfl rfl 23 (gv (0, 0)) r6 (sizeV _) rfl (oneV _) ?_))
    go_cut [102] (fun v102 wr => v102 = .bool false ∧ At wr w.heap.size 23 (gv X) ∧ At wr (w.heap.size + 1) 23 (gv Y) ∧ At wr w1.heap.size 23 (gv Z) ∧ At wr w5.heap.size 23 (gv M) ∧ At wr w6.heap.size 23 (gv N) ∧ Keeps w wr)
    case first =>
      go_wp2_with fail
      all_goals
        go_meet
        exact ⟨rfl, x6, y6, z6, m6, n6, k6⟩
    case rest =>
    obtain ⟨rfl, x6, y6, z6, m6, n6, k6⟩ := hcut
    clear q1 q2 q3 f1 f2
    generalize wc = W6 at *
    go_upto_region 11 with (first
      | (refine load_row_w rfl 23 _ rfl _ rfl 23 _ _ _ m6 Tryd.underlying23 rfl (sizeV _) ?_)
      | (go_at_call 16
         (with_reducible refine (mm _).mono ?_)
         rintro e w7 ⟨rfl, b7⟩
         have r7 := At.new w7 23 (gv (0, 0))
         have c7 := r7.row (gv X)
         have d7 := below_row (Keeps.alloc b7 (.cells (gv (0, 0)) 23)) b7.size (gv X)
         have x7 := x6.later d7
         have y7 := y6.later d7
         have z7 := z6.later d7
         have m7 := m6.later d7
         have n7 := n6.later d7
         have k7 := Keeps.next k6 d7
         clear mm x6 y6 z6 m6 n6)
      | (refine wpList_store_row rfl 23 _ _ rfl _ (gv X) rfl rfl 23 (gv (0, 0)) r7 (sizeV _) rfl (oneV _) ?_))
    go_upto_region 12 with (first
      | (refine load_row_w rfl 23 _ rfl _ rfl 23 _ _ _ x7 Tryd.underlying23 rfl (sizeV _) ?_)
      | (refine load_row_w rfl 23 _ rfl _ rfl 23 _ _ _ m7 Tryd.underlying23 rfl (sizeV _) ?_)
      | (go_at_call 20
         (with_reducible refine (pxm _).mono ?_)
         rintro e w8 ⟨rfl, b8⟩
         have r8 := At.new w8 23 (gv (0, 0))
         have o8 := r8.row (gv (a, 0))
         have d8 := below_row (Keeps.alloc b8 (.cells (gv (0, 0)) 23)) b8.size (gv (a, 0))
         have x8 := x7.later d8
         have y8 := y7.later d8
         have z8 := z7.later d8
         have m8 := m7.later d8
         have n8 := n7.later d8
         have c8 := c7.later d8
         have k8 := Keeps.next k7 d8
         clear pxm x7 y7 z7 m7 n7 c7)
      | (refine wpList_store_row rfl 23 _ _ rfl _ (gv (a, 0)) rfl rfl 23 (gv (0, 0)) r8 (sizeV _) rfl (oneV _) ?_))
    go_upto_region 13 with (first
      | (refine load_row_w rfl 23 _ rfl _ rfl 23 _ _ _ m8 Tryd.underlying23 rfl (sizeV _) ?_)
      | (refine load_row_w rfl 23 _ rfl _ rfl 23 _ _ _ n8 Tryd.underlying23 rfl (sizeV _) ?_)
      | (go_at_call 20
         (with_reducible refine (pmn _).mono ?_)
         rintro e w9 ⟨rfl, b9⟩
         have r9 := At.new w9 23 (gv (0, 0))
         have t9 := r9.row (gv T)
         have d9 := below_row (Keeps.alloc b9 (.cells (gv (0, 0)) 23)) b9.size (gv T)
         have x9 := x8.later d9
         have y9 := y8.later d9
         have z9 := z8.later d9
         have m9 := m8.later d9
         have n9 := n8.later d9
         have c9 := c8.later d9
         have o9 := o8.later d9
         have k9 := Keeps.next k8 d9
         clear pmn x8 y8 z8 m8 n8 c8 o8)
      | (refine wpList_store_row rfl 23 _ _ rfl _ (gv T) rfl rfl 23 (gv (0, 0)) r9 (sizeV _) rfl (oneV _) ?_))
    go_upto_region 14 with (first
      | (refine load_row_w rfl 23 _ rfl _ rfl 23 _ _ _ z9 Tryd.underlying23 rfl (sizeV _) ?_)
      | (go_at_call 16
         (with_reducible refine (mz _).mono ?_)
         rintro e w10 ⟨rfl, b10⟩
         have r10 := At.new w10 23 (gv (0, 0))
         have u10 := r10.row (gv T)
         have d10 := below_row (Keeps.alloc b10 (.cells (gv (0, 0)) 23)) b10.size (gv T)
         have x10 := x9.later d10
         have y10 := y9.later d10
         have z10 := z9.later d10
         have m10 := m9.later d10
         have n10 := n9.later d10
         have c10 := c9.later d10
         have o10 := o9.later d10
         have t10 := t9.later d10
         have k10 := Keeps.next k9 d10
         clear mz x9 y9 z9 m9 n9 c9 o9 t9)
      | (refine wpList_store_row rfl 23 _ _ rfl _ (gv T) rfl rfl 23 (gv (0, 0)) r10 (sizeV _) rfl (oneV _) ?_))
    go_wp2_with (first
      | (refine load_row_w rfl 23 _ rfl _ rfl 23 #[.int .i64 X.1, .int .i64 X.2] _ _ c10 Tryd.underlying23 rfl (sizeG _ _) ?_)
      | (refine load_row_w rfl 23 _ rfl _ rfl 23 #[.int .i64 X.1, .int .i64 X.2] _ _ x10 Tryd.underlying23 rfl (sizeG _ _) ?_)
      | (refine load_row_w rfl 23 _ rfl _ rfl 23 #[.int .i64 a, .int .i64 0] _ _ o10 Tryd.underlying23 rfl (sizeG _ _) ?_)
      | (refine load_row_w rfl 23 _ rfl _ rfl 23 #[.int .i64 T.1, .int .i64 T.2] _ _ t10 Tryd.underlying23 rfl (sizeG _ _) ?_)
      | (refine load_row_w rfl 23 _ rfl _ rfl 23 #[.int .i64 T.1, .int .i64 T.2] _ _ u10 Tryd.underlying23 rfl (sizeG _ _) ?_)
      | (go_at_call 11; refine (aw _).mono ?_; rintro e w11 ⟨rfl, b11⟩))
    go_ret
    exact ⟨rfl, Keeps.next k10 b11⟩
theorem law_norms (a b c d : Int) (w : World) : Calls Tryd.prog 8 #[.agg #[.int .i64 a, .int .i64 b], .agg #[.int .i64 c, .int .i64 d]] w fun e w' => e = .returned (.bool true) ∧ Keeps w w' := norms_v (a, b) (c, d) w
end Go.Proofs.YtnpelnhfbbihkaaDoor
