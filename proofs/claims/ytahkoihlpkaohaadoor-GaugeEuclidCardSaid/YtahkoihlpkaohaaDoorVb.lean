/- The walks of Product and of the reference's product; the law GaugeProducts. -/
import Derived.Test.YtahkoihlpkaohaaDoorVa
namespace Go.Proofs.YtahkoihlpkaohaaDoor
open Go.RowKit
set_option linter.unusedVariables false
set_option linter.unusedSimpArgs false

set_option maxHeartbeats 1000000 in
theorem refTimes_c (a b c d : Int) (ha : sm 1000000000 a) (hb : sm 1000000000 b) (hc : sm 1000000000 c) (hd : sm 1000000000 d) (w : World) :
    Calls Tryd.prog 14 #[.agg #[.int .i64 a, .int .i64 b], .agg #[.int .i64 c, .int .i64 d]] w fun e w' => e = .returned (.agg #[.int .i64 (a * c + b * d), .int .i64 (a * d + b * c + b * d)]) ∧ Keeps w w' := by
  have ha2 := ha
  unfold sm at ha2
  obtain ⟨a1, a2⟩ := ha2
  have hb2 := hb
  unfold sm at hb2
  obtain ⟨b1, b2⟩ := hb2
  have hc2 := hc
  unfold sm at hc2
  obtain ⟨c1, c2⟩ := hc2
  have hd2 := hd
  unfold sm at hd2
  obtain ⟨d1, d2⟩ := hd2
  have m1 := sm_mul 1000000000 1000000000 a c ha hc (by decide) (by decide)
  have m2 := sm_mul 1000000000 1000000000 b d hb hd (by decide) (by decide)
  have m3 := sm_mul 1000000000 1000000000 a d ha hd (by decide) (by decide)
  have m4 := sm_mul 1000000000 1000000000 b c hb hc (by decide) (by decide)
  unfold sm at m1 m2 m3 m4
  obtain ⟨m11, m12⟩ := m1
  obtain ⟨m21, m22⟩ := m2
  obtain ⟨m31, m32⟩ := m3
  obtain ⟨m41, m42⟩ := m4
  have q1 : IntKind.i64.wrap (a * c) = a * c := IntWalk.i64_in _ (by omega)
  have q2 : IntKind.i64.wrap (b * d) = b * d := IntWalk.i64_in _ (by omega)
  have q3 : IntKind.i64.wrap (a * d) = a * d := IntWalk.i64_in _ (by omega)
  have q4 : IntKind.i64.wrap (b * c) = b * c := IntWalk.i64_in _ (by omega)
  have q5 : IntKind.i64.wrap (a * c + b * d) = a * c + b * d := IntWalk.i64_in _ (by omega)
  have q6 : IntKind.i64.wrap (a * d + b * c) = a * d + b * c := IntWalk.i64_in _ (by omega)
  have q7 : IntKind.i64.wrap (a * d + b * c + b * d) = a * d + b * c + b * d := IntWalk.i64_in _ (by omega)
  clear m11 m12 m21 m22 m31 m32 m41 m42
  have hX := At.new3 w (.cells #[.int .i64 a, .int .i64 b] 23) (.cells #[.int .i64 c, .int .i64 d] 23) 23 #[.int .i64 0, .int .i64 0]
  have hk : Keeps w (((w.alloc (.cells #[.int .i64 a, .int .i64 b] 23)).alloc (.cells #[.int .i64 c, .int .i64 d] 23)).alloc (.cells #[.int .i64 0, .int .i64 0] 23)) := Keeps.alloc (Keeps.alloc (Keeps.alloc (Below.refl _ _) _) _) _
  go_enter Tryd.func14, Tryd.ntmps14
  go_wp2_with (refine wpList_store_row rfl 23 _ _ rfl (w.heap.size + 1 + 1) #[.int .i64 (a * c + b * d), .int .i64 (a * d + b * c + b * d)] rfl rfl 23 #[.int .i64 0, .int .i64 0] hX (sizeG _ _) rfl (oneG _ _) ?_)
  have h3 := hX.row #[.int .i64 (a * c + b * d), .int .i64 (a * d + b * c + b * d)]
  refine bodyPost_ret (results_cell_row Tryd.results14 _ _ (w.heap.size + 1 + 1) _ _ _ _ rfl h3 Tryd.underlying23 rfl (sizeG _ _)) rfl ⟨rfl, below_row hk (by omega) _⟩
theorem refTimes_v (x y : Int × Int) (h : sm2 1000000000 x) (h' : sm2 1000000000 y) (w : World) : Calls Tryd.prog 14 #[.agg (gv x), .agg (gv y)] w fun e w' => e = .returned (.agg (gv (timesG x y))) ∧ Keeps w w' := refTimes_c x.1 x.2 y.1 y.2 h.1 h.2 h'.1 h'.2 w
def prodV (x y : Int × Int) : Int × Int := if numB x.1 x.2 = true ∧ numB y.1 y.2 = true then nofV (timesG x y) else (0, 0)
def prodE (x y : Int × Int) : Int := if numB x.1 x.2 = true ∧ numB y.1 y.2 = true then nofE (timesG x y) else 2
set_option maxHeartbeats 1000000 in
theorem Product_c (x y : Int × Int) (w : World) :
    Calls Tryd.prog 21 #[.agg (gv x), .agg (gv y)] w fun e w' => e = .returned (.tuple #[.agg (gv (prodV x y)), .int .i64 (prodE x y)]) ∧ Keeps w w' := by
  have i1 := fun z => isNumber_v x z
  have i2 := fun z => isNumber_v y z
  have a0 : At (((w.alloc (.cells (gv x) 23)).alloc (.cells (gv y) 23)).alloc (.cells (gv (0, 0)) 23)) w.heap.size 23 (gv x) := ((At.new w _ _).alloc _).alloc _
  have b0 : At (((w.alloc (.cells (gv x) 23)).alloc (.cells (gv y) 23)).alloc (.cells (gv (0, 0)) 23)) (w.heap.size + 1) 23 (gv y) := (At.new2 w _ _ _).alloc _
  have r0 : At (((w.alloc (.cells (gv x) 23)).alloc (.cells (gv y) 23)).alloc (.cells (gv (0, 0)) 23)) (w.heap.size + 1 + 1) 23 (gv (0, 0)) := At.new3 w _ _ _ _
  have k0 : Keeps w (((w.alloc (.cells (gv x) 23)).alloc (.cells (gv y) 23)).alloc (.cells (gv (0, 0)) 23)) := Keeps.alloc (Keeps.alloc (Keeps.alloc (Below.refl _ _) _) _) _
  have n0 : w.heap.size ≤ w.heap.size + 1 + 1 := by omega
  unfold prodV prodE
  cases hx : numB x.1 x.2
  · rw [hx] at i1
    rw [if_neg (by simp), if_neg (by simp)]
    clear hx i2
    change Calls Tryd.prog 21 #[.agg #[.int .i64 x.1, .int .i64 x.2], .agg #[.int .i64 y.1, .int .i64 y.2]] w _
    go_enter Tryd.func21, Tryd.ntmps21
    go_wp2_with (first
      | (refine load_row_w rfl 23 _ rfl _ rfl 23 _ _ _ (by assumption) Tryd.underlying23 rfl (sizeV _) ?_)
      | (refine wpList_store_row rfl 23 _ _ rfl _ (gv (0, 0)) rfl rfl 23 (gv (0, 0)) (by assumption) (sizeV _) rfl (oneV _) ?_)
      | (go_at_call 23; refine (i1 _).mono ?_; rintro e w1 ⟨rfl, b1⟩; have r1 := r0.later b1))
    exact bodyPost_ret (results_row_tmp Tryd.results21 _ _ (w.heap.size + 1 + 1) _ _ _ rfl (r1.row _) Tryd.underlying23 rfl (sizeV _)) rfl ⟨rfl, below_row (Keeps.next k0 b1) n0 _⟩
  · rw [hx] at i1
    cases hy : numB y.1 y.2
    · rw [hy] at i2
      rw [if_neg (by simp), if_neg (by simp)]
      clear hx hy
      change Calls Tryd.prog 21 #[.agg #[.int .i64 x.1, .int .i64 x.2], .agg #[.int .i64 y.1, .int .i64 y.2]] w _
      go_enter Tryd.func21, Tryd.ntmps21
      go_wp2_with (first
        | (refine load_row_w rfl 23 _ rfl _ rfl 23 _ _ _ (by assumption) Tryd.underlying23 rfl (sizeV _) ?_)
        | (refine wpList_store_row rfl 23 _ _ rfl _ (gv (0, 0)) rfl rfl 23 (gv (0, 0)) (by assumption) (sizeV _) rfl (oneV _) ?_)
        | (go_at_call 23; (with_reducible refine (i1 _).mono ?_); rintro e w1 ⟨rfl, b1⟩; have a1 := a0.later b1; have b01 := b0.later b1; have r1 := r0.later b1; clear i1)
        | (go_at_call 23; (with_reducible refine (i2 _).mono ?_); rintro e w2 ⟨rfl, b2⟩; have r2 := r1.later b2))
      exact bodyPost_ret (results_row_tmp Tryd.results21 _ _ (w.heap.size + 1 + 1) _ _ _ rfl (r2.row _) Tryd.underlying23 rfl (sizeV _)) rfl ⟨rfl, below_row (Keeps.next (Keeps.next k0 b1) b2) n0 _⟩
    · rw [hy] at i2
      rw [if_pos (by simp), if_pos (by simp)]
      have m1 := fun z => times_v x y (sm2_mono (sm2_of hx) (by decide)) (sm2_mono (sm2_of hy) (by decide)) z
      have s1 := fun z => numberOrFull_c (timesG x y) z
      clear hx hy
      generalize nofE (timesG x y) = ne at *
      generalize nofV (timesG x y) = nv at *
      generalize timesG x y = t at *
      change Calls Tryd.prog 21 #[.agg #[.int .i64 x.1, .int .i64 x.2], .agg #[.int .i64 y.1, .int .i64 y.2]] w _
      go_enter Tryd.func21, Tryd.ntmps21
      go_wp2_with (first
        | (refine load_row_w rfl 23 _ rfl _ rfl 23 _ _ _ (by assumption) Tryd.underlying23 rfl (sizeV _) ?_)
        | (refine wpList_store_row rfl 23 _ _ rfl _ (gv nv) rfl rfl 23 (gv (0, 0)) (by assumption) (sizeV _) rfl (oneV _) ?_)
        | (go_at_call 23; (with_reducible refine (i1 _).mono ?_); rintro e w1 ⟨rfl, b1⟩; have a1 := a0.later b1; have b01 := b0.later b1; have r1 := r0.later b1; clear i1)
        | (go_at_call 23; (with_reducible refine (i2 _).mono ?_); rintro e w2 ⟨rfl, b2⟩; have a2 := a1.later b2; have b02 := b01.later b2; have r2 := r1.later b2; clear i2)
        | (go_at_call 24; refine (m1 _).mono ?_; rintro e w3 ⟨rfl, b3⟩; have r3 := r2.later b3)
        | (go_at_call 39; refine (s1 _).mono ?_; rintro e w4 ⟨rfl, b4⟩; have r4 := r3.later b4))
      exact bodyPost_ret (results_row_tmp Tryd.results21 _ _ (w.heap.size + 1 + 1) _ _ _ rfl (r4.row _) Tryd.underlying23 rfl (sizeV _)) rfl ⟨rfl, below_row (Keeps.next (Keeps.next (Keeps.next (Keeps.next k0 b1) b2) b3) b4) n0 _⟩

end Go.Proofs.YtahkoihlpkaohaaDoor
