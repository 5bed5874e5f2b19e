/- The law GaugeOrdered. -/
import Derived.Test.YtahkoihlpkaohaaDoorUa
import Derived.Test.YtahkoihlpkaohaaDoorWb
import Derived.Test.YtahkoihlpkaohaaDoorWd
namespace Go.Proofs.YtahkoihlpkaohaaDoor
open Go.RowKit
set_option linter.unusedVariables false
set_option linter.unusedSimpArgs false

set_option maxHeartbeats 4000000 in
set_option maxRecDepth 100000 in
theorem ordered_v (x y z : Int × Int) (w : World) :
    Calls Tryd.prog 4 #[.agg (gv x), .agg (gv y), .agg (gv z)] w fun e w' => e = .returned (.bool true) ∧ Keeps w w' := by
  have aw := fun z => awake_c z
  have t1 := fun u => tame_c x 500000 (by decide) (by decide) u
  have t2 := fun u => tame_c y 500000 (by decide) (by decide) u
  have t3 := fun u => tame_c z 500000 (by decide) (by decide) u
  have hX := tame_sm 500000 (by decide) x
  have hY := tame_sm 500000 (by decide) y
  have hZ := tame_sm 500000 (by decide) z
  generalize tameG 500000 x = X at *
  generalize tameG 500000 y = Y at *
  generalize tameG 500000 z = Z at *
  have nX := num_of (sm2_mono hX (by decide))
  have nY := num_of (sm2_mono hY (by decide))
  have nZ := num_of (sm2_mono hZ (by decide))
  have c1 := fun u => Compare_num X Y nX nY u
  have c2 := fun u => Compare_num Y X nY nX u
  have c5 := fun u => Compare_num Y Z nY nZ u
  have c6 := fun u => Compare_num X Z nX nZ u
  have hx := hX; have hy := hY; have hz := hZ
  unfold sm2 sm at hx hy hz
  have d1 : ∀ u, Calls Tryd.prog 17 #[.agg #[.int .i64 X.1, .int .i64 X.2], .agg #[.int .i64 Z.1, .int .i64 Z.2]] u fun e w' => e = .returned (.agg #[.int .i64 (X.1 + Z.1), .int .i64 (X.2 + Z.2)]) ∧ Keeps u w' :=
    fun u => refPlus_v X Z (sm2_mono hX (by decide)) (sm2_mono hZ (by decide)) u
  have d2 : ∀ u, Calls Tryd.prog 17 #[.agg #[.int .i64 Y.1, .int .i64 Y.2], .agg #[.int .i64 Z.1, .int .i64 Z.2]] u fun e w' => e = .returned (.agg #[.int .i64 (Y.1 + Z.1), .int .i64 (Y.2 + Z.2)]) ∧ Keeps u w' :=
    fun u => refPlus_v Y Z (sm2_mono hY (by decide)) (sm2_mono hZ (by decide)) u
  have d3 : ∀ u, Calls Tryd.prog 13 #[.agg #[.int .i64 0, .int .i64 0], .agg #[.int .i64 X.1, .int .i64 X.2]] u fun e w' => e = .returned (.agg #[.int .i64 (-X.1), .int .i64 (-X.2)]) ∧ Keeps u w' :=
    fun u => by
      have h := refMinus_v (0, 0) X (by unfold sm2 sm; simp) (sm2_mono hX (by decide)) u
      simp only [minusG, Int.zero_sub] at h
      exact h
  have d4 : ∀ u, Calls Tryd.prog 13 #[.agg #[.int .i64 0, .int .i64 0], .agg #[.int .i64 Y.1, .int .i64 Y.2]] u fun e w' => e = .returned (.agg #[.int .i64 (-Y.1), .int .i64 (-Y.2)]) ∧ Keeps u w' :=
    fun u => by
      have h := refMinus_v (0, 0) Y (by unfold sm2 sm; simp) (sm2_mono hY (by decide)) u
      simp only [minusG, Int.zero_sub] at h
      exact h
  have c3 : ∀ u, Calls Tryd.prog 16 #[.agg #[.int .i64 (X.1 + Z.1), .int .i64 (X.2 + Z.2)], .agg #[.int .i64 (Y.1 + Z.1), .int .i64 (Y.2 + Z.2)]] u fun e w' => e = .returned (.tuple #[.int .i64 (sgn (X.1 - Y.1) (X.2 - Y.2)), .int .i64 0]) ∧ Keeps u w' := fun u => by
    have h := Compare_num (X.1 + Z.1, X.2 + Z.2) (Y.1 + Z.1, Y.2 + Z.2) (num_of (by unfold sm2 sm; simp only; omega)) (num_of (by unfold sm2 sm; simp only; omega)) u
    simp only at h
    rw [show X.1 + Z.1 - (Y.1 + Z.1) = X.1 - Y.1 by omega, show X.2 + Z.2 - (Y.2 + Z.2) = X.2 - Y.2 by omega] at h
    exact h
  have c4 : ∀ u, Calls Tryd.prog 16 #[.agg #[.int .i64 (-X.1), .int .i64 (-X.2)], .agg #[.int .i64 (-Y.1), .int .i64 (-Y.2)]] u fun e w' => e = .returned (.tuple #[.int .i64 (sgn (Y.1 - X.1) (Y.2 - X.2)), .int .i64 0]) ∧ Keeps u w' := fun u => by
    have h := Compare_num (-X.1, -X.2) (-Y.1, -Y.2) (num_of (by unfold sm2 sm; simp only; omega)) (num_of (by unfold sm2 sm; simp only; omega)) u
    simp only at h
    rw [show -X.1 - -Y.1 = Y.1 - X.1 by omega, show -X.2 - -Y.2 = Y.2 - X.2 by omega] at h
    exact h
  have g1 := sgn_neg (X.1 - Y.1) (X.2 - Y.2)
  rw [show -(X.1 - Y.1) = Y.1 - X.1 by omega, show -(X.2 - Y.2) = Y.2 - X.2 by omega] at g1
  have g2 := sgn_zero (X.1 - Y.1) (X.2 - Y.2)
  have g3 := sgn_in (X.1 - Y.1) (X.2 - Y.2)
  have g4 := sgn_add (X.1 - Y.1) (X.2 - Y.2) (Y.1 - Z.1) (Y.2 - Z.2)
  have g5 := sgn_add_neg (X.1 - Y.1) (X.2 - Y.2) (Y.1 - Z.1) (Y.2 - Z.2)
  rw [show X.1 - Y.1 + (Y.1 - Z.1) = X.1 - Z.1 by omega, show X.2 - Y.2 + (Y.2 - Z.2) = X.2 - Z.2 by omega] at g4 g5
  generalize sgn (X.1 - Y.1) (X.2 - Y.2) = a at *
  generalize sgn (Y.1 - X.1) (Y.2 - X.2) = b at *
  generalize sgn (Y.1 - Z.1) (Y.2 - Z.2) = p at *
  generalize sgn (X.1 - Z.1) (X.2 - Z.2) = q at *
  have qb : IntKind.i64.wrap (-b) = a := by rw [IntWalk.i64_in _ (by omega)]; omega
  have hXb : ∃ b1 b2 : Bool, (X.1 == Y.1) = b1 ∧ (X.2 == Y.2) = b2 ∧ (a == 0) = (b1 && b2) := ⟨_, _, rfl, rfl, by
    rw [Bool.eq_iff_iff]; simp only [beq_iff_eq, Bool.and_eq_true]; rw [g2]; omega⟩
  obtain ⟨b1, b2, hb1, hb2, ha0⟩ := hXb
  have hA : decide (a < 0) = true ∨ (decide (a < 0) = false ∧ decide (p < 0) = true) ∨ (decide (a < 0) = false ∧ decide (p < 0) = false ∧ decide (0 ≤ q) = true) := by
    simp only [decide_eq_true_eq, decide_eq_false_iff_not]; omega
  have hB : decide (0 < a) = true ∨ (decide (0 < a) = false ∧ decide (0 < p) = true) ∨ (decide (0 < a) = false ∧ decide (0 < p) = false ∧ decide (q ≤ 0) = true) := by
    simp only [decide_eq_true_eq, decide_eq_false_iff_not]; omega
  have HA := Lib.hid hA
  have HB := Lib.hid hB
  have H0 := Lib.hid ha0
  clear hX hY hZ nX nY nZ hx hy hz g1 g2 g3 g4 g5 hA hB ha0
  obtain ⟨W, hW⟩ : ∃ W, (((w.alloc (.cells #[.int .i64 x.1, .int .i64 x.2] 23)).alloc (.cells #[.int .i64 y.1, .int .i64 y.2] 23)).alloc (.cells #[.int .i64 z.1, .int .i64 z.2] 23)) = W := ⟨_, rfl⟩
  have x0 : At W w.heap.size 23 (gv x) := by rw [← hW]; exact ((At.new w _ _).alloc _).alloc _
  have y0 : At W (w.heap.size + 1) 23 (gv y) := by rw [← hW]; exact (At.new2 w _ _ _).alloc _
  have z0 : At W (w.heap.size + 1 + 1) 23 (gv z) := by rw [← hW]; exact At.new3 w _ _ _ _
  have k0 : Keeps w W := by rw [← hW]; exact Keeps.alloc (Keeps.alloc (Keeps.alloc (Below.refl _ _) _) _) _
  have HW := Lib.hid hW
  clear hW
  change Calls Tryd.prog 4 #[.agg #[.int .i64 x.1, .int .i64 x.2], .agg #[.int .i64 y.1, .int .i64 y.2], .agg #[.int .i64 z.1, .int .i64 z.2]] w _
  go_enter Tryd.func4, Tryd.ntmps4
  go_upto_region 1 with (fail)
  rw [HW.out]
  clear HW
  refine region_any_inv (G := Unit) (f := ?f) (fun _ => [.agg (gv x), .agg #[.int .i64 X.1, .int .i64 X.2], .agg (gv y), .agg #[.int .i64 Y.1, .int .i64 Y.2], .agg (gv z), .agg #[.int .i64 Z.1, .int .i64 Z.2], undef, undef, undef])
    (fun _ L w' => Keeps w w' ∧ At w' w.heap.size 23 (gv (if L 6 = true then X else x)) ∧ At w' (w.heap.size + 1) 23 (gv (if L 7 = true then Y else y)) ∧ At w' (w.heap.size + 1 + 1) 23 (gv (if L 8 = true then Z else z)))
    () (fun _ => ?hf) (by kernel_rfl) (by kernel_rfl) ⟨k0.dr, x0.drew, y0.drew, z0.drew⟩ ?steps ?fin
  case hf =>
    simp only [fill, List.toList_toArray, List.zip_cons_cons, List.zip_nil_left, List.zip_nil_right, List.foldl_cons, List.foldl_nil, Act.put, List.setIfInBounds_toArray, List.set_cons_succ, List.set_cons_zero]
    exact rfl
  case steps =>
    have n01 : w.heap.size ≠ w.heap.size + 1 := by omega
    have n02 : w.heap.size ≠ w.heap.size + 1 + 1 := by omega
    have n10 : w.heap.size + 1 ≠ w.heap.size := by omega
    have n12 : w.heap.size + 1 ≠ w.heap.size + 1 + 1 := by omega
    have n20 : w.heap.size + 1 + 1 ≠ w.heap.size := by omega
    have n21 : w.heap.size + 1 + 1 ≠ w.heap.size + 1 := by omega
    have l0 : w.heap.size ≤ w.heap.size := by omega
    have l1 : w.heap.size ≤ w.heap.size + 1 := by omega
    have l2 : w.heap.size ≤ w.heap.size + 1 + 1 := by omega
    refine StepsU.cons rfl (fun g L w' hL hr hc hF => ?_) ?_
    · have e := hc.not 6 0 rfl rfl hL
      obtain ⟨k1, x1, y1, z1⟩ := hF
      have h1 := x1
      rw [e, if_neg (by simp)] at h1
      obtain ⟨p1, p2, p3, p4⟩ := row_four h1
      refine StepU.go rfl (fun K hK => ?_)
      clear aw c1 c2 c3 c4 c5 c6 d1 d2 d3 d4 t1 t2 t3
      go_simp
      exact hK () _ ⟨k1, x1, y1, z1⟩
    refine StepsU.cons rfl (fun g L w' hL hr hc hF => ?_) ?_
    · obtain ⟨k1, x1, y1, z1⟩ := hF
      refine StepU.go rfl (fun K hK => ?_)
      clear aw c1 c2 c3 c4 c5 c6 d1 d2 d3 d4
      go_simp
      refine (t1 _).mono ?_
      rintro e w2 ⟨rfl, b1⟩
      exact hK () _ ⟨Keeps.next k1 b1, x1.later b1, y1.later b1, z1.later b1⟩
    refine StepsU.cons rfl (fun g L w' hL hr hc hF => ?_) ?_
    · have e := hc.not 7 2 rfl rfl hL
      obtain ⟨k1, x1, y1, z1⟩ := hF
      have h1 := y1
      rw [e, if_neg (by simp)] at h1
      obtain ⟨p1, p2, p3, p4⟩ := row_four h1
      refine StepU.go rfl (fun K hK => ?_)
      clear aw c1 c2 c3 c4 c5 c6 d1 d2 d3 d4 t1 t2 t3
      go_simp
      exact hK () _ ⟨k1, x1, y1, z1⟩
    refine StepsU.cons rfl (fun g L w' hL hr hc hF => ?_) ?_
    · obtain ⟨k1, x1, y1, z1⟩ := hF
      refine StepU.go rfl (fun K hK => ?_)
      clear aw c1 c2 c3 c4 c5 c6 d1 d2 d3 d4
      go_simp
      refine (t2 _).mono ?_
      rintro e w2 ⟨rfl, b1⟩
      exact hK () _ ⟨Keeps.next k1 b1, x1.later b1, y1.later b1, z1.later b1⟩
    refine StepsU.cons rfl (fun g L w' hL hr hc hF => ?_) ?_
    · have e := hc.not 8 4 rfl rfl hL
      obtain ⟨k1, x1, y1, z1⟩ := hF
      have h1 := z1
      rw [e, if_neg (by simp)] at h1
      obtain ⟨p1, p2, p3, p4⟩ := row_four h1
      refine StepU.go rfl (fun K hK => ?_)
      clear aw c1 c2 c3 c4 c5 c6 d1 d2 d3 d4 t1 t2 t3
      go_simp
      exact hK () _ ⟨k1, x1, y1, z1⟩
    refine StepsU.cons rfl (fun g L w' hL hr hc hF => ?_) ?_
    · obtain ⟨k1, x1, y1, z1⟩ := hF
      refine StepU.go rfl (fun K hK => ?_)
      clear aw c1 c2 c3 c4 c5 c6 d1 d2 d3 d4
      go_simp
      refine (t3 _).mono ?_
      rintro e w2 ⟨rfl, b1⟩
      exact hK () _ ⟨Keeps.next k1 b1, x1.later b1, y1.later b1, z1.later b1⟩
    refine StepsU.cons rfl (fun g L w' hL hr hc hF => ?_) ?_
    · obtain ⟨k1, x1, y1, z1⟩ := hF
      have h1 := x1
      rw [hL, if_neg (by simp)] at h1
      obtain ⟨p1, p2, p3, p4⟩ := row_four h1
      refine StepU.go rfl (fun K hK => ?_)
      clear aw c1 c2 c3 c4 c5 c6 d1 d2 d3 d4 t1 t2 t3
      go_simp
      refine hK () _ ?_
      exact ⟨Keeps.set (Keeps.set k1 _ l0 _ _) _ l0 _ _, by rw [if_pos (add_same L _)]; exact (h1.set 0 _).set 1 _, (y1.far n10 _).far n10 _, (z1.far n20 _).far n20 _⟩
    refine StepsU.cons rfl (fun g L w' hL hr hc hF => ?_) ?_
    · obtain ⟨k1, x1, y1, z1⟩ := hF
      have h1 := y1
      rw [hL, if_neg (by simp)] at h1
      obtain ⟨p1, p2, p3, p4⟩ := row_four h1
      refine StepU.go rfl (fun K hK => ?_)
      clear aw c1 c2 c3 c4 c5 c6 d1 d2 d3 d4 t1 t2 t3
      go_simp
      refine hK () _ ?_
      exact ⟨Keeps.set (Keeps.set k1 _ l1 _ _) _ l1 _ _, (x1.far n01 _).far n01 _, by rw [if_pos (add_same L _)]; exact (h1.set 0 _).set 1 _, (z1.far n21 _).far n21 _⟩
    refine StepsU.cons rfl (fun g L w' hL hr hc hF => ?_) ?_
    · obtain ⟨k1, x1, y1, z1⟩ := hF
      have h1 := z1
      rw [hL, if_neg (by simp)] at h1
      obtain ⟨p1, p2, p3, p4⟩ := row_four h1
      refine StepU.go rfl (fun K hK => ?_)
      clear aw c1 c2 c3 c4 c5 c6 d1 d2 d3 d4 t1 t2 t3
      go_simp
      refine hK () _ ?_
      exact ⟨Keeps.set (Keeps.set k1 _ l2 _ _) _ l2 _ _, (x1.far n02 _).far n02 _, (y1.far n12 _).far n12 _, by rw [if_pos (add_same L _)]; exact (h1.set 0 _).set 1 _⟩
    exact StepsU.nil (by simp)
  case fin =>
  intro g L w0 hall hF
  obtain ⟨k0, x0, y0, z0⟩ := hF
  rw [hall 6 (by simp), if_pos rfl] at x0
  rw [hall 7 (by simp), if_pos rfl] at y0
  rw [hall 8 (by simp), if_pos rfl] at z0
  clear hall t1 t2 t3
  -- NEXT
  go_upto_region 3 with (first
    | (refine load_row_w rfl 23 _ rfl _ rfl 23 _ _ _ x0 Tryd.underlying23 rfl (sizeV _) ?_)
    | (refine load_row_w rfl 23 _ rfl _ rfl 23 _ _ _ y0 Tryd.underlying23 rfl (sizeV _) ?_)
    | (go_at_call 16
       (with_reducible refine (c1 _).mono ?_)
       rintro e w1 ⟨rfl, bl1⟩
       have x1 := x0.later bl1
       have y1 := y0.later bl1
       have z1 := z0.later bl1
       have k1 := Keeps.next k0 bl1
       clear c1 x0 y0 z0))
  go_upto_region 4 with (first
    | (refine load_row_w rfl 23 _ rfl _ rfl 23 _ _ _ y1 Tryd.underlying23 rfl (sizeV _) ?_)
    | (refine load_row_w rfl 23 _ rfl _ rfl 23 _ _ _ x1 Tryd.underlying23 rfl (sizeV _) ?_)
    | (go_at_call 16
       (with_reducible refine (c2 _).mono ?_)
       rintro e w2 ⟨rfl, bl2⟩
       have x2 := x1.later bl2
       have y2 := y1.later bl2
       have z2 := z1.later bl2
       have k2 := Keeps.next k1 bl2
       clear c2 x1 y1 z1))
  obtain ⟨xa, xb⟩ := cells_gv x2
  obtain ⟨ya, yb⟩ := cells_gv y2
  obtain ⟨za, zb⟩ := cells_gv z2
  have Sof : ∀ w', Keeps w2 w' → (w'.cell? ⟨w.heap.size, 0, none⟩ = some (.int .i64 X.1) ∧ w'.cell? ⟨w.heap.size, 1, none⟩ = some (.int .i64 X.2) ∧ w'.cell? ⟨w.heap.size + 1, 0, none⟩ = some (.int .i64 Y.1) ∧ w'.cell? ⟨w.heap.size + 1, 1, none⟩ = some (.int .i64 Y.2) ∧ w'.cell? ⟨w.heap.size + 1 + 1, 0, none⟩ = some (.int .i64 Z.1) ∧ w'.cell? ⟨w.heap.size + 1 + 1, 1, none⟩ = some (.int .i64 Z.2)) :=
    fun w' h => ⟨cell_keep (w := w2) xa h, cell_keep (w := w2) xb h, cell_keep (w := w2) ya h, cell_keep (w := w2) yb h, cell_keep (w := w2) za h, cell_keep (w := w2) zb h⟩
  have SOf := Lib.hid Sof
  have kk : Keeps w2 w2 := Below.refl _ _
  clear Sof xa xb ya yb za zb
  go_cut [11, 12] (fun v11 v12 wr => v11 = .int .i64 a ∧ v12 = .int .i64 0 ∧ Keeps w2 wr)
  case first =>
    go_region_held3 (fun w' => w'.cell? ⟨w.heap.size, 0, none⟩ = some (.int .i64 X.1) ∧ w'.cell? ⟨w.heap.size, 1, none⟩ = some (.int .i64 X.2) ∧ w'.cell? ⟨w.heap.size + 1, 0, none⟩ = some (.int .i64 Y.1) ∧ w'.cell? ⟨w.heap.size + 1, 1, none⟩ = some (.int .i64 Y.2) ∧ w'.cell? ⟨w.heap.size + 1 + 1, 0, none⟩ = some (.int .i64 Z.1) ∧ w'.cell? ⟨w.heap.size + 1 + 1, 1, none⟩ = some (.int .i64 Z.2))
      (first | exact SOf.out _ (Keeps.dr kk) | exact SOf.out _ kk | fail)
      (first
        | (go_at_call 17; (with_reducible refine (d1 _).mono ?_); rintro e wz ⟨rfl, bz⟩; first | (have kk := Keeps.next (Keeps.dr kk) bz) | (have kk := Keeps.next kk bz))
        | (go_at_call 17; (with_reducible refine (d2 _).mono ?_); rintro e wz ⟨rfl, bz⟩; first | (have kk := Keeps.next (Keeps.dr kk) bz) | (have kk := Keeps.next kk bz))
        | (go_at_call 16; (with_reducible refine (c3 _).mono ?_); rintro e wz ⟨rfl, bz⟩; first | (have kk := Keeps.next (Keeps.dr kk) bz) | (have kk := Keeps.next kk bz)))
    all_goals
      go_wp2_with fail
      go_meet
      exact ⟨rfl, rfl, kk⟩
  case rest =>
  obtain ⟨rfl, rfl, hk⟩ := hcut
  have x3 := x2.later hk
  have y3 := y2.later hk
  have z3 := z2.later hk
  have k3 := Keeps.next k2 hk
  clear kk SOf hk x2 y2 z2 d1 d2 c3
  generalize wc = w3 at *
  go_upto_region 5 with (fail)
  obtain ⟨xa, xb⟩ := cells_gv x3
  obtain ⟨ya, yb⟩ := cells_gv y3
  have Sof : ∀ w', Keeps w3 w' → (w'.cell? ⟨w.heap.size, 0, none⟩ = some (.int .i64 X.1) ∧ w'.cell? ⟨w.heap.size, 1, none⟩ = some (.int .i64 X.2) ∧ w'.cell? ⟨w.heap.size + 1, 0, none⟩ = some (.int .i64 Y.1) ∧ w'.cell? ⟨w.heap.size + 1, 1, none⟩ = some (.int .i64 Y.2)) :=
    fun w' h => ⟨cell_keep (w := w3) xa h, cell_keep (w := w3) xb h, cell_keep (w := w3) ya h, cell_keep (w := w3) yb h⟩
  have SOf := Lib.hid Sof
  have kk : Keeps w3 w3 := Below.refl _ _
  clear Sof xa xb ya yb
  go_cut [13, 14] (fun v13 v14 wr => v13 = .int .i64 b ∧ v14 = .int .i64 0 ∧ Keeps w3 wr)
  case first =>
    go_region_held3 (fun w' => w'.cell? ⟨w.heap.size, 0, none⟩ = some (.int .i64 X.1) ∧ w'.cell? ⟨w.heap.size, 1, none⟩ = some (.int .i64 X.2) ∧ w'.cell? ⟨w.heap.size + 1, 0, none⟩ = some (.int .i64 Y.1) ∧ w'.cell? ⟨w.heap.size + 1, 1, none⟩ = some (.int .i64 Y.2))
      (first | exact SOf.out _ (Keeps.dr kk) | exact SOf.out _ kk | fail)
      (first
        | (go_at_call 13; (with_reducible refine (d3 _).mono ?_); rintro e wz ⟨rfl, bz⟩; first | (have kk := Keeps.next (Keeps.dr kk) bz) | (have kk := Keeps.next kk bz))
        | (go_at_call 13; (with_reducible refine (d4 _).mono ?_); rintro e wz ⟨rfl, bz⟩; first | (have kk := Keeps.next (Keeps.dr kk) bz) | (have kk := Keeps.next kk bz))
        | (go_at_call 16; (with_reducible refine (c4 _).mono ?_); rintro e wz ⟨rfl, bz⟩; first | (have kk := Keeps.next (Keeps.dr kk) bz) | (have kk := Keeps.next kk bz)))
    all_goals
      go_wp2_with fail
      go_meet
      exact ⟨rfl, rfl, kk⟩
  case rest =>
  obtain ⟨rfl, rfl, hk⟩ := hcut
  have x4 := x3.later hk
  have y4 := y3.later hk
  have z4 := z3.later hk
  have k4 := Keeps.next k3 hk
  clear kk SOf hk x3 y3 z3 d3 d4 c4
  generalize wc = w4 at *
  go_upto_region 7 with (first
    | (refine load_row_w rfl 23 _ rfl _ rfl 23 _ _ _ y4 Tryd.underlying23 rfl (sizeV _) ?_)
    | (refine load_row_w rfl 23 _ rfl _ rfl 23 _ _ _ z4 Tryd.underlying23 rfl (sizeV _) ?_)
    | (go_at_call 16
       (with_reducible refine (c5 _).mono ?_)
       rintro e w5 ⟨rfl, bl5⟩
       have x5 := x4.later bl5
       have y5 := y4.later bl5
       have z5 := z4.later bl5
       have k5 := Keeps.next k4 bl5
       clear c5 x4 y4 z4))
  go_upto_region 8 with (first
    | (refine load_row_w rfl 23 _ rfl _ rfl 23 _ _ _ x5 Tryd.underlying23 rfl (sizeV _) ?_)
    | (refine load_row_w rfl 23 _ rfl _ rfl 23 _ _ _ z5 Tryd.underlying23 rfl (sizeV _) ?_)
    | (go_at_call 16
       (with_reducible refine (c6 _).mono ?_)
       rintro e w6 ⟨rfl, bl6⟩
       have x6 := x5.later bl6
       have y6 := y5.later bl6
       have z6 := z5.later bl6
       have k6 := Keeps.next k5 bl6
       clear c6 x5 y5 z5))
  go_cut [115] (fun v115 wr => v115 = .bool false ∧ Keeps w wr)
  case first =>
    clear aw HA HB
    have ha0 := H0.out
    clear H0
    cases b1 <;> cases b2
    all_goals
      simp only [Bool.and_true, Bool.and_false, Bool.false_and, Bool.true_and] at ha0
      go_wp2_with (first
        | (refine load_row_w rfl 23 _ rfl _ rfl 23 #[.int .i64 X.1, .int .i64 X.2] _ _ x6 Tryd.underlying23 rfl (sizeG _ _) ?_)
        | (refine load_row_w rfl 23 _ rfl _ rfl 23 #[.int .i64 Y.1, .int .i64 Y.2] _ _ y6 Tryd.underlying23 rfl (sizeG _ _) ?_))
      go_meet
      exact ⟨rfl, k6⟩
  case rest =>
  obtain ⟨rfl, hk⟩ := hcut
  clear qb hb1 hb2 H0 x6 y6 z6 k6
  generalize wc = wf at *
  go_upto_region 10 with (fail)
  rcases HA.out with h1 | ⟨h1, h2⟩ | ⟨h1, h2, h3⟩
  all_goals
    rcases HB.out with h4 | ⟨h4, h5⟩ | ⟨h4, h5, h6⟩
    all_goals
      clear HA HB
      go_wp2_with (go_at_call 11; refine (aw _).mono ?_; rintro e w9 ⟨rfl, b9⟩)
      go_ret
      exact ⟨rfl, Keeps.next hk b9⟩
theorem law_ordered (a b c d e f : Int) (w : World) : Calls Tryd.prog 4 #[.agg #[.int .i64 a, .int .i64 b], .agg #[.int .i64 c, .int .i64 d], .agg #[.int .i64 e, .int .i64 f]] w fun e w' => e = .returned (.bool true) ∧ Keeps w w' := ordered_v (a, b) (c, d) (e, f) w
end Go.Proofs.YtahkoihlpkaohaaDoor
