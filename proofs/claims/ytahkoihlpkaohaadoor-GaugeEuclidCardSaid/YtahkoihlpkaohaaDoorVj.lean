/- The walk of the reference's quotient. -/
import Derived.Test.YtahkoihlpkaohaaDoorVi
namespace Go.Proofs.YtahkoihlpkaohaaDoor
open Go.RowKit
set_option linter.unusedVariables false
set_option linter.unusedSimpArgs false

set_option maxHeartbeats 4000000 in
set_option maxRecDepth 100000 in
theorem refQuotient_c (x y : Int × Int) (hx : sm2 1000000 x) (hy : sm2 1000000 y) (hN : normG y ≠ 0) (w : World) :
    Calls Tryd.prog 12 #[.agg (gv x), .agg (gv y)] w fun e w' => e = .returned (.agg (gv (divQ x y))) ∧ Keeps w w' := by
  have c1 : ∀ z, Calls Tryd.prog 32 #[.agg #[.int .i64 y.1, .int .i64 y.2]] z fun e w' => e = .returned (.agg (gv (mateG y))) ∧ Keeps z w' := fun z => refMate_v y (sm2_mono hy (by decide)) z
  have c2 : ∀ z, Calls Tryd.prog 14 #[.agg #[.int .i64 x.1, .int .i64 x.2], .agg (gv (mateG y))] z fun e w' => e = .returned (.agg #[.int .i64 (timesG x (mateG y)).1, .int .i64 (timesG x (mateG y)).2]) ∧ Keeps z w' := fun z => refTimes_v x (mateG y) (sm2_mono hx (by decide)) (sm2_mono (sm2_mate hy) (by decide)) z
  have c3 := fun z => refNorm_v y (sm2_mono hy (by decide)) z
  have st := sm2_times hx (sm2_mate hy) (by decide) (by decide)
  have sn := sm_norm hy
  have stm := sm2_mono st (show (3 * (1000000 * 2000000) : Int) ≤ 100000000000000 by decide)
  have snm := sm_mono sn (show (3000000000000 : Int) ≤ 100000000000000 by decide)
  have e1 := near_eq (timesG x (mateG y)).1 (normG y) hN
  have e2 := near_eq (timesG x (mateG y)).2 (normG y) hN
  unfold divQ
  rw [e1, e2]
  clear e1 e2 st sn hx hy
  obtain ⟨X, hX⟩ : ∃ X, (((w.alloc (.cells #[.int .i64 x.1, .int .i64 x.2] 23)).alloc (.cells #[.int .i64 y.1, .int .i64 y.2] 23)).alloc (.cells #[.int .i64 0, .int .i64 0] 23)) = X := ⟨_, rfl⟩
  have hXs : X.heap.size = w.heap.size + 3 := by rw [← hX]; simp
  have h0 : At X w.heap.size 23 (gv x) := by rw [← hX]; exact ((At.new w _ _).alloc _).alloc _
  have h1 : At X (w.heap.size + 1) 23 (gv y) := by rw [← hX]; exact (At.new2 w _ _ _).alloc _
  have h2 : At X (w.heap.size + 1 + 1) 23 (gv (0, 0)) := by rw [← hX]; exact At.new3 w _ _ _ _
  have hk : Keeps w X := by rw [← hX]; exact Keeps.alloc (Keeps.alloc (Keeps.alloc (Below.refl _ _) _) _) _
  have HX := Lib.hid hX
  clear hX
  obtain ⟨F1, hF1⟩ : ∃ F, (if normG y < 0 then refNear (-(timesG x (mateG y)).1) (-normG y) else refNear (timesG x (mateG y)).1 (normG y)) = F := ⟨_, rfl⟩
  obtain ⟨F2, hF2⟩ : ∃ F, (if normG y < 0 then refNear (-(timesG x (mateG y)).2) (-normG y) else refNear (timesG x (mateG y)).2 (normG y)) = F := ⟨_, rfl⟩
  rw [hF1, hF2]
  generalize hz : timesG x (mateG y) = z at *
  generalize hn : normG y = n at *
  clear hz hn
  obtain ⟨stm1, stm2⟩ := stm
  have HF1 := Lib.hid hF1
  have HF2 := Lib.hid hF2
  clear hF1 hF2
  have S1 := Lib.hid stm1
  have S2 := Lib.hid stm2
  have S3 := Lib.hid snm
  have S4 := Lib.hid hN
  have HXs := Lib.hid hXs
  clear stm1 stm2 snm hN hXs
  change Calls Tryd.prog 12 #[.agg #[.int .i64 x.1, .int .i64 x.2], .agg #[.int .i64 y.1, .int .i64 y.2]] w _
  go_enter Tryd.func12, Tryd.ntmps12
  go_upto_region 1 with (fail)
  rw [HX.out]
  obtain ⟨q1, q2⟩ := cells_gv h0
  obtain ⟨q3, q4⟩ := cells_gv h1
  have Sof : ∀ W, Keeps X W → (W.cell? ⟨w.heap.size, 0, none⟩ = some (.int .i64 x.1) ∧ W.cell? ⟨w.heap.size, 1, none⟩ = some (.int .i64 x.2) ∧ W.cell? ⟨w.heap.size + 1, 0, none⟩ = some (.int .i64 y.1) ∧ W.cell? ⟨w.heap.size + 1, 1, none⟩ = some (.int .i64 y.2)) :=
    fun W h => ⟨cell_keep (w := X) q1 h, cell_keep (w := X) q2 h, cell_keep (w := X) q3 h, cell_keep (w := X) q4 h⟩
  have SOf := Lib.hid Sof
  have kk : Keeps X X := Below.refl _ _
  clear Sof h0 h1
  go_cut [5, 6] (fun v5 v6 wr => ∃ g, v5 = .pointer (some ⟨g, 0, none⟩) ∧ v6 = .int .i64 n ∧ At wr g 23 (gv z) ∧ X.heap.size ≤ g ∧ Keeps X wr)
  case first =>
    go_region_held3 (fun w' => w'.cell? ⟨w.heap.size, 0, none⟩ = some (.int .i64 x.1) ∧ w'.cell? ⟨w.heap.size, 1, none⟩ = some (.int .i64 x.2) ∧ w'.cell? ⟨w.heap.size + 1, 0, none⟩ = some (.int .i64 y.1) ∧ w'.cell? ⟨w.heap.size + 1, 1, none⟩ = some (.int .i64 y.2))
      (first | exact SOf.out _ (Keeps.dr kk) | exact SOf.out _ (Keeps.dr (Keeps.alloc kk _)) | exact SOf.out _ kk | exact SOf.out _ (Keeps.alloc kk _) | exact SOf.out _ (Keeps.set (Keeps.set kk _ hgl _ _) _ hgl _ _) | fail)
      (first
        | (go_at_call 32
           refine (c1 _).mono ?_
           rintro e w3 ⟨rfl, hb3⟩
           first | (have hz := At.laidD hb3; have hgl := kk.size; have kk := Keeps.next (Keeps.dr (Keeps.alloc kk _)) hb3) | (have kk := Keeps.next (Keeps.dr kk) hb3))
        | (go_at_call 14
           refine (c2 _).mono ?_
           rintro e w4 ⟨rfl, hb4⟩
           first | (have hz := At.laid hb4; have hgl := kk.size; have kk := Keeps.next (Keeps.alloc kk _) hb4) | (have hz := hz.later hb4; have kk := Keeps.next kk hb4) | (have kk := Keeps.next kk hb4))
        | (go_at_call 33
           refine (c3 _).mono ?_
           rintro e w5 ⟨rfl, hb5⟩
           first | (have hz := At.laid hb5; have hgl := kk.size; have kk := Keeps.next (Keeps.alloc kk _) hb5; obtain ⟨r50, r51, f50, f51⟩ := zero_at hz) | (have hz := hz.later hb5; have kk := Keeps.next kk hb5; obtain ⟨r50, r51, f50, f51⟩ := zero_at hz) | (have kk := Keeps.next kk hb5)))
    all_goals
      go_wp2_with fail
      go_meet
      first
        | exact ⟨_, rfl, rfl, At.new _ _ _, kk.size, Keeps.alloc kk _⟩
        | exact ⟨_, rfl, rfl, (hz.set 0 _).set 1 _, hgl, Keeps.set (Keeps.set kk _ hgl _ _) _ hgl _ _⟩
  case rest =>
    obtain ⟨g, rfl, rfl, hT, hg2, hkT⟩ := hcut
    have r4 := h2.later hkT
    have hwk : Keeps w wc := Keeps.next hk hkT
    have hg3 : w.heap.size + 3 ≤ g := by have := HXs.out; omega
    have ng : g ≠ w.heap.size + 1 + 1 := by omega
    have ng2 : w.heap.size + 1 + 1 ≠ g := by omega
    have lg : w.heap.size ≤ g := by omega
    clear c1 c2 c3 kk q1 q2 q3 q4 SOf h2 hk hkT HX HXs hg2
    generalize wc = wd at *
    obtain ⟨p1, p2⟩ := cells_gv hT
    by_cases hn : n < 0
    · have n1 := fun u => refNearest_c (-z.1) (-n) (by have := S1.out; unfold sm at *; omega) (by have := S3.out; unfold sm at *; omega) (by omega) u
      have n2 := fun u => refNearest_c (-z.2) (-n) (by have := S2.out; unfold sm at *; omega) (by have := S3.out; unfold sm at *; omega) (by omega) u
      have d1 : decide (n < 0) = true := by simpa using hn
      have e1 := HF1.out
      have e2 := HF2.out
      rw [if_pos hn] at e1 e2
      rw [e1] at n1
      rw [e2] at n2
      have u1 : IntKind.i64.wrap (-z.1) = -z.1 := IntWalk.i64_in _ (by have := S1.out; unfold sm at *; omega)
      have u2 : IntKind.i64.wrap (-z.2) = -z.2 := IntWalk.i64_in _ (by have := S2.out; unfold sm at *; omega)
      have u3 : IntKind.i64.wrap (-n) = -n := IntWalk.i64_in _ (by have := S3.out; unfold sm at *; omega)
      clear e1 e2 hn HF1 HF2
      go_upto_region 5 with (refine wpList_store_row rfl 23 _ _ rfl g (gv (-z.1, -z.2)) rfl rfl 23 (gv z) hT (sizeV _) rfl (oneV _) ?_)
      have hT2 := hT.row (gv (-z.1, -z.2))
      have r42 := r4.rowfar ng2 (gv (-z.1, -z.2)) (g' := g)
      have hwk2 := below_row hwk lg (gv (-z.1, -z.2))
      generalize wd.setRow g (gv (-z.1, -z.2)) = we at *
      obtain ⟨p3, p4⟩ := cells_gv hT2
      clear hT r4 hwk p1 p2 u1 u2 u3 d1
      go_still_tail 9, (by kernel_rfl)
      still_call ((n1 we.drew).mono fun _ _ ⟨h, k⟩ => ⟨h, k.symm⟩)
      repeat still_step
      still_call ((n2 we.drew).mono fun _ _ ⟨h, k⟩ => ⟨h, k.symm⟩)
      repeat still_step
      refine wpStill_nil ?_
      change wpList _ _ _ _ _ we.drew
      have r5 := r42.drew
      have k5 := Keeps.dr hwk2
      generalize we.drew = wf at *
      go_wp2_with (refine wpList_store_row rfl 23 _ _ rfl (w.heap.size + 1 + 1) (gv (F1, F2)) rfl rfl 23 (gv (0, 0)) r5 (sizeV _) rfl (oneV _) ?_)
      exact bodyPost_ret (results_cell_row Tryd.results12 _ _ (w.heap.size + 1 + 1) _ _ _ _ rfl (r5.row _) Tryd.underlying23 rfl (sizeV _)) rfl ⟨rfl, below_row k5 (by omega) _⟩
    · have h0 : 0 < n := by have := S4.out; omega
      have n1 := fun u => refNearest_c z.1 n (by have := S1.out; unfold sm at *; omega) (by have := S3.out; unfold sm at *; omega) h0 u
      have n2 := fun u => refNearest_c z.2 n (by have := S2.out; unfold sm at *; omega) (by have := S3.out; unfold sm at *; omega) h0 u
      have d1 : decide (n < 0) = false := by simpa using hn
      have e1 := HF1.out
      have e2 := HF2.out
      rw [if_neg hn] at e1 e2
      rw [e1] at n1
      rw [e2] at n2
      clear e1 e2 hn h0 HF1 HF2
      go_upto_region 5 with (fail)
      go_still_tail 9, (by kernel_rfl)
      still_call ((n1 wd.drew).mono fun _ _ ⟨h, k⟩ => ⟨h, k.symm⟩)
      repeat still_step
      still_call ((n2 wd.drew).mono fun _ _ ⟨h, k⟩ => ⟨h, k.symm⟩)
      repeat still_step
      refine wpStill_nil ?_
      change wpList _ _ _ _ _ wd.drew
      have r5 := r4.drew
      have k5 := Keeps.dr hwk
      generalize wd.drew = wf at *
      go_wp2_with (refine wpList_store_row rfl 23 _ _ rfl (w.heap.size + 1 + 1) (gv (F1, F2)) rfl rfl 23 (gv (0, 0)) r5 (sizeV _) rfl (oneV _) ?_)
      exact bodyPost_ret (results_cell_row Tryd.results12 _ _ (w.heap.size + 1 + 1) _ _ _ _ rfl (r5.row _) Tryd.underlying23 rfl (sizeV _)) rfl ⟨rfl, below_row k5 (by omega) _⟩
end Go.Proofs.YtahkoihlpkaohaaDoor
