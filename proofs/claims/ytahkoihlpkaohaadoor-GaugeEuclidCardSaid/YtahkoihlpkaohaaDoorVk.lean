/- The walks of Divide where the quotient or the rest is no number. -/
import Derived.Test.YtahkoihlpkaohaaDoorGq
namespace Go.Proofs.YtahkoihlpkaohaaDoor
open Go.RowKit
set_option linter.unusedVariables false
set_option linter.unusedSimpArgs false

set_option maxHeartbeats 2000000 in
theorem divide_x (x y : Int × Int) (hx : numB x.1 x.2 = false) (w : World) :
    Calls Tryd.prog 9 #[.agg (gv x), .agg (gv y)] w fun e w' => e = .returned (.tuple #[.agg (gv (0, 0)), .agg (gv (0, 0)), .int .i64 2]) ∧ Keeps w w' := by
  have i1 := fun z => isNumber_v x z
  rw [hx] at i1
  clear hx
  have a0 : At ((((w.alloc (.cells (gv x) 23)).alloc (.cells (gv y) 23)).alloc (.cells (gv (0, 0)) 23)).alloc (.cells (gv (0, 0)) 23)) w.heap.size 23 (gv x) := (((At.new w _ _).alloc _).alloc _).alloc _
  have b0 : At ((((w.alloc (.cells (gv x) 23)).alloc (.cells (gv y) 23)).alloc (.cells (gv (0, 0)) 23)).alloc (.cells (gv (0, 0)) 23)) (w.heap.size + 1) 23 (gv y) := ((At.new2 w _ _ _).alloc _).alloc _
  have r0 : At ((((w.alloc (.cells (gv x) 23)).alloc (.cells (gv y) 23)).alloc (.cells (gv (0, 0)) 23)).alloc (.cells (gv (0, 0)) 23)) (w.heap.size + 1 + 1) 23 (gv (0, 0)) := (At.new3 w _ _ _ _).alloc _
  have s0 : At ((((w.alloc (.cells (gv x) 23)).alloc (.cells (gv y) 23)).alloc (.cells (gv (0, 0)) 23)).alloc (.cells (gv (0, 0)) 23)) (w.heap.size + 1 + 1 + 1) 23 (gv (0, 0)) := At.new' _ _ (by simp) _ _
  have k0 : Keeps w ((((w.alloc (.cells (gv x) 23)).alloc (.cells (gv y) 23)).alloc (.cells (gv (0, 0)) 23)).alloc (.cells (gv (0, 0)) 23)) := Keeps.alloc (Keeps.alloc (Keeps.alloc (Keeps.alloc (Below.refl _ _) _) _) _) _
  change Calls Tryd.prog 9 #[.agg #[.int .i64 x.1, .int .i64 x.2], .agg #[.int .i64 y.1, .int .i64 y.2]] w _
  go_enter Tryd.func9, Tryd.ntmps9
  go_wp2_with (first
    | (refine load_row_w rfl 23 _ rfl _ rfl 23 _ _ _ a0 Tryd.underlying23 rfl (sizeV _) ?_)
    | (go_at_call 23; (with_reducible refine (i1 _).mono ?_); rintro e w1 ⟨rfl, b1⟩; have a1 := a0.later b1; have b01 := b0.later b1; have ra := r0.later b1; have rb := s0.later b1; have hw := Keeps.next k0 b1; clear i1 a0 b0 r0 s0)
    | (refine wpList_store_row rfl 23 _ _ rfl (w.heap.size + 1 + 1) (gv (0, 0)) rfl rfl 23 (gv (0, 0)) ra (sizeV _) rfl (oneV _) ?_; have ra2 := ra.row (gv (0, 0)); have rb2 := rb.rowfar (by omega) (gv (0, 0)) (g' := w.heap.size + 1 + 1); clear ra rb)
    | (refine wpList_store_row rfl 23 _ _ rfl (w.heap.size + 1 + 1 + 1) (gv (0, 0)) rfl rfl 23 (gv (0, 0)) rb2 (sizeV _) rfl (oneV _) ?_))
  exact bodyPost_ret (results_two Tryd.results9 _ _ _ _ _ _ _ _ _ rfl rfl (ra2.rowfar (by omega) (gv (0, 0)) (g' := w.heap.size + 1 + 1 + 1)) (rb2.row (gv (0, 0))) Tryd.underlying23 rfl (sizeV _) (sizeV _)) rfl ⟨rfl, below_row (below_row hw (by omega) _) (by omega) _⟩
set_option maxHeartbeats 2000000 in
theorem divide_y (x y : Int × Int) (hx : numB x.1 x.2 = true) (hy : numB y.1 y.2 = false) (w : World) :
    Calls Tryd.prog 9 #[.agg (gv x), .agg (gv y)] w fun e w' => e = .returned (.tuple #[.agg (gv (0, 0)), .agg (gv (0, 0)), .int .i64 2]) ∧ Keeps w w' := by
  have i1 := fun z => isNumber_v x z
  rw [hx] at i1
  have i2 := fun z => isNumber_v y z
  rw [hy] at i2
  clear hx hy
  have a0 : At ((((w.alloc (.cells (gv x) 23)).alloc (.cells (gv y) 23)).alloc (.cells (gv (0, 0)) 23)).alloc (.cells (gv (0, 0)) 23)) w.heap.size 23 (gv x) := (((At.new w _ _).alloc _).alloc _).alloc _
  have b0 : At ((((w.alloc (.cells (gv x) 23)).alloc (.cells (gv y) 23)).alloc (.cells (gv (0, 0)) 23)).alloc (.cells (gv (0, 0)) 23)) (w.heap.size + 1) 23 (gv y) := ((At.new2 w _ _ _).alloc _).alloc _
  have r0 : At ((((w.alloc (.cells (gv x) 23)).alloc (.cells (gv y) 23)).alloc (.cells (gv (0, 0)) 23)).alloc (.cells (gv (0, 0)) 23)) (w.heap.size + 1 + 1) 23 (gv (0, 0)) := (At.new3 w _ _ _ _).alloc _
  have s0 : At ((((w.alloc (.cells (gv x) 23)).alloc (.cells (gv y) 23)).alloc (.cells (gv (0, 0)) 23)).alloc (.cells (gv (0, 0)) 23)) (w.heap.size + 1 + 1 + 1) 23 (gv (0, 0)) := At.new' _ _ (by simp) _ _
  have k0 : Keeps w ((((w.alloc (.cells (gv x) 23)).alloc (.cells (gv y) 23)).alloc (.cells (gv (0, 0)) 23)).alloc (.cells (gv (0, 0)) 23)) := Keeps.alloc (Keeps.alloc (Keeps.alloc (Keeps.alloc (Below.refl _ _) _) _) _) _
  change Calls Tryd.prog 9 #[.agg #[.int .i64 x.1, .int .i64 x.2], .agg #[.int .i64 y.1, .int .i64 y.2]] w _
  go_enter Tryd.func9, Tryd.ntmps9
  go_wp2_with (first
    | (refine load_row_w rfl 23 _ rfl _ rfl 23 _ _ _ a0 Tryd.underlying23 rfl (sizeV _) ?_)
    | (refine load_row_w rfl 23 _ rfl _ rfl 23 _ _ _ b01 Tryd.underlying23 rfl (sizeV _) ?_)
    | (go_at_call 23; (with_reducible refine (i1 _).mono ?_); rintro e w1 ⟨rfl, b1⟩; have a1 := a0.later b1; have b01 := b0.later b1; have r1 := r0.later b1; have s1 := s0.later b1; have k1 := Keeps.next k0 b1; clear i1 a0 b0 r0 s0)
    | (go_at_call 23; (with_reducible refine (i2 _).mono ?_); rintro e w2 ⟨rfl, b2⟩; have a2 := a1.later b2; have b02 := b01.later b2; have ra := r1.later b2; have rb := s1.later b2; have hw := Keeps.next k1 b2; clear i2)
    | (refine wpList_store_row rfl 23 _ _ rfl (w.heap.size + 1 + 1) (gv (0, 0)) rfl rfl 23 (gv (0, 0)) ra (sizeV _) rfl (oneV _) ?_; have ra2 := ra.row (gv (0, 0)); have rb2 := rb.rowfar (by omega) (gv (0, 0)) (g' := w.heap.size + 1 + 1); clear ra rb)
    | (refine wpList_store_row rfl 23 _ _ rfl (w.heap.size + 1 + 1 + 1) (gv (0, 0)) rfl rfl 23 (gv (0, 0)) rb2 (sizeV _) rfl (oneV _) ?_))
  exact bodyPost_ret (results_two Tryd.results9 _ _ _ _ _ _ _ _ _ rfl rfl (ra2.rowfar (by omega) (gv (0, 0)) (g' := w.heap.size + 1 + 1 + 1)) (rb2.row (gv (0, 0))) Tryd.underlying23 rfl (sizeV _) (sizeV _)) rfl ⟨rfl, below_row (below_row hw (by omega) _) (by omega) _⟩
set_option maxHeartbeats 2000000 in
theorem divide_0 (x : Int × Int) (hx : numB x.1 x.2 = true) (w : World) :
    Calls Tryd.prog 9 #[.agg (gv x), .agg (gv (0, 0))] w fun e w' => e = .returned (.tuple #[.agg (gv (0, 0)), .agg (gv (0, 0)), .int .i64 2]) ∧ Keeps w w' := by
  have i1 := fun z => isNumber_v x z
  rw [hx] at i1
  have i2 : ∀ z, Calls Tryd.prog 23 #[.agg #[.int .i64 0, .int .i64 0]] z fun e w' => e = .returned (.bool true) ∧ Keeps z w' := fun z => isNumber_v (0, 0) z
  clear hx
  have a0 : At ((((w.alloc (.cells (gv x) 23)).alloc (.cells (gv (0, 0)) 23)).alloc (.cells (gv (0, 0)) 23)).alloc (.cells (gv (0, 0)) 23)) w.heap.size 23 (gv x) := (((At.new w _ _).alloc _).alloc _).alloc _
  have b0 : At ((((w.alloc (.cells (gv x) 23)).alloc (.cells (gv (0, 0)) 23)).alloc (.cells (gv (0, 0)) 23)).alloc (.cells (gv (0, 0)) 23)) (w.heap.size + 1) 23 (gv (0, 0)) := ((At.new2 w _ _ _).alloc _).alloc _
  have r0 : At ((((w.alloc (.cells (gv x) 23)).alloc (.cells (gv (0, 0)) 23)).alloc (.cells (gv (0, 0)) 23)).alloc (.cells (gv (0, 0)) 23)) (w.heap.size + 1 + 1) 23 (gv (0, 0)) := (At.new3 w _ _ _ _).alloc _
  have s0 : At ((((w.alloc (.cells (gv x) 23)).alloc (.cells (gv (0, 0)) 23)).alloc (.cells (gv (0, 0)) 23)).alloc (.cells (gv (0, 0)) 23)) (w.heap.size + 1 + 1 + 1) 23 (gv (0, 0)) := At.new' _ _ (by simp) _ _
  have k0 : Keeps w ((((w.alloc (.cells (gv x) 23)).alloc (.cells (gv (0, 0)) 23)).alloc (.cells (gv (0, 0)) 23)).alloc (.cells (gv (0, 0)) 23)) := Keeps.alloc (Keeps.alloc (Keeps.alloc (Keeps.alloc (Below.refl _ _) _) _) _) _
  change Calls Tryd.prog 9 #[.agg #[.int .i64 x.1, .int .i64 x.2], .agg #[.int .i64 0, .int .i64 0]] w _
  go_enter Tryd.func9, Tryd.ntmps9
  go_wp2_with (first
    | (refine load_row_w rfl 23 _ rfl _ rfl 23 _ _ _ a0 Tryd.underlying23 rfl (sizeV _) ?_)
    | (refine load_row_w rfl 23 _ rfl _ rfl 23 #[.int .i64 0, .int .i64 0] _ _ b02 Tryd.underlying23 rfl (sizeG _ _) ?_)
    | (refine load_row_w rfl 23 _ rfl _ rfl 23 #[.int .i64 0, .int .i64 0] _ _ b01 Tryd.underlying23 rfl (sizeG _ _) ?_)
    | (go_at_call 23; (with_reducible refine (i1 _).mono ?_); rintro e w1 ⟨rfl, b1⟩; have a1 := a0.later b1; have b01 := b0.later b1; have r1 := r0.later b1; have s1 := s0.later b1; have k1 := Keeps.next k0 b1; clear i1 a0 b0 r0 s0)
    | (go_at_call 23; (with_reducible refine (i2 _).mono ?_); rintro e w2 ⟨rfl, b2⟩; have a2 := a1.later b2; have b02 := b01.later b2; have ra := r1.later b2; have rb := s1.later b2; have hw := Keeps.next k1 b2; clear i2)
    | (refine wpList_store_row rfl 23 _ _ rfl (w.heap.size + 1 + 1) (gv (0, 0)) rfl rfl 23 (gv (0, 0)) ra (sizeV _) rfl (oneV _) ?_; have ra2 := ra.row (gv (0, 0)); have rb2 := rb.rowfar (by omega) (gv (0, 0)) (g' := w.heap.size + 1 + 1); clear ra rb)
    | (refine wpList_store_row rfl 23 _ _ rfl (w.heap.size + 1 + 1 + 1) (gv (0, 0)) rfl rfl 23 (gv (0, 0)) rb2 (sizeV _) rfl (oneV _) ?_))
  exact bodyPost_ret (results_two Tryd.results9 _ _ _ _ _ _ _ _ _ rfl rfl (ra2.rowfar (by omega) (gv (0, 0)) (g' := w.heap.size + 1 + 1 + 1)) (rb2.row (gv (0, 0))) Tryd.underlying23 rfl (sizeV _) (sizeV _)) rfl ⟨rfl, below_row (below_row hw (by omega) _) (by omega) _⟩
set_option maxHeartbeats 4000000 in
set_option maxRecDepth 100000 in
theorem divide_q (x y : Int × Int) (hx : numB x.1 x.2 = true) (hy : numB y.1 y.2 = true) (hy0 : y ≠ (0, 0)) (hN : normG y ≠ 0) (hq : numB (divQ x y).1 (divQ x y).2 = false) (w : World) :
    Calls Tryd.prog 9 #[.agg (gv x), .agg (gv y)] w fun e w' => e = .returned (.tuple #[.agg (gv (0, 0)), .agg (gv (0, 0)), .int .i64 5]) ∧ Keeps w w' := by
  have sx := sm2_of hx
  have sy := sm2_of hy
  have i1 := fun z => isNumber_v x z
  have i2 := fun z => isNumber_v y z
  rw [hx] at i1
  rw [hy] at i2
  have c1 := fun z => mate_v y (sm2_mono sy (by decide)) z
  have c2 : ∀ z, Calls Tryd.prog 24 #[.agg (gv x), .agg (gv (mateG y))] z fun e w' => e = .returned (.agg #[.int .i64 (timesG x (mateG y)).1, .int .i64 (timesG x (mateG y)).2]) ∧ Keeps z w' := fun z => times_v x (mateG y) (sm2_mono sx (by decide)) (sm2_mono (sm2_mate sy) (by decide)) z
  have c3 := fun z => norm_v y (sm2_mono sy (by decide)) z
  have st := sm2_times sx (sm2_mate sy) (by decide) (by decide)
  have sn := sm_norm sy
  have n1 := fun z => nearest_c (timesG x (mateG y)).1 (normG y) (sm_mono st.1 (by decide)) (sm_mono sn (by decide)) hN z
  have n2 := fun z => nearest_c (timesG x (mateG y)).2 (normG y) (sm_mono st.2 (by decide)) (sm_mono sn (by decide)) hN z
  have hXb : ∃ b1 b2 : Bool, (y.1 == 0) = b1 ∧ (y.2 == 0) = b2 ∧ (b1 && b2) = false := ⟨_, _, rfl, rfl, by
    cases h1 : (y.1 == 0) <;> cases h2 : (y.2 == 0) <;> simp_all
    exact hy0 (Prod.ext h1 h2)⟩
  obtain ⟨b1, b2, hb1', hb2', hb⟩ := hXb
  have i3 := fun z => isNumber_v (divQ x y) z
  rw [hq] at i3
  clear hx hy hy0 hN hq sx sy st sn
  obtain ⟨X, hX⟩ : ∃ X, (((w.alloc (.cells #[.int .i64 x.1, .int .i64 x.2] 23)).alloc (.cells #[.int .i64 y.1, .int .i64 y.2] 23)).alloc (.cells #[.int .i64 0, .int .i64 0] 23)).alloc (.cells #[.int .i64 0, .int .i64 0] 23) = X := ⟨_, rfl⟩
  have hXs : X.heap.size = w.heap.size + 4 := by rw [← hX]; simp
  have h0 : At X w.heap.size 23 (gv x) := by rw [← hX]; exact (((At.new w _ _).alloc _).alloc _).alloc _
  have h1 : At X (w.heap.size + 1) 23 (gv y) := by rw [← hX]; exact ((At.new2 w _ _ _).alloc _).alloc _
  have h2 : At X (w.heap.size + 1 + 1) 23 (gv (0, 0)) := by rw [← hX]; exact (At.new3 w _ _ _ _).alloc _
  have h3 : At X (w.heap.size + 1 + 1 + 1) 23 (gv (0, 0)) := by rw [← hX]; exact At.new' _ _ (by simp) _ _
  have hk : Keeps w X := by rw [← hX]; exact Keeps.alloc (Keeps.alloc (Keeps.alloc (Keeps.alloc (Below.refl _ _) _) _) _) _
  have HX := Lib.hid hX
  have HXs := Lib.hid hXs
  clear hX hXs
  change Calls Tryd.prog 9 #[.agg #[.int .i64 x.1, .int .i64 x.2], .agg #[.int .i64 y.1, .int .i64 y.2]] w _
  go_enter Tryd.func9, Tryd.ntmps9
  go_upto_region 1 with (fail)
  rw [HX.out]
  go_cut [23] (fun v23 wr => v23 = .bool false ∧ Keeps X wr)
  case first =>
    clear c1 c2 c3 n1 n2 i3
    cases b1 <;> cases b2
    case true.true => simp at hb
    all_goals
      go_wp2_with (first
        | (refine load_row_w rfl 23 _ rfl w.heap.size rfl 23 _ _ _ h0 Tryd.underlying23 rfl (sizeV _) ?_)
        | (refine load_row_w rfl 23 _ rfl (w.heap.size + 1) rfl 23 _ _ _ j1 Tryd.underlying23 rfl (sizeV _) ?_)
        | (refine load_row_w rfl 23 _ rfl (w.heap.size + 1) rfl 23 #[.int .i64 y.1, .int .i64 y.2] _ _ k1 Tryd.underlying23 rfl (sizeV _) ?_)
        | (go_at_call 23; (with_reducible refine (i1 _).mono ?_); rintro e w1 ⟨rfl, hb1⟩; have j1 := h1.later hb1; clear i1)
        | (go_at_call 23; (with_reducible refine (i2 _).mono ?_); rintro e w2 ⟨rfl, hb2⟩; have k1 := j1.later hb2; clear i2))
      go_meet
      exact ⟨rfl, Keeps.next hb1 hb2⟩
  case rest =>
  obtain ⟨rfl, hX2⟩ := hcut
  generalize wc = w2 at *
  clear i1 i2 hb1' hb2' hb
  go_upto_region 3 with (fail)
  have k0 := h0.later hX2
  have k1 := h1.later hX2
  obtain ⟨q1, q2⟩ := cells_gv k0
  obtain ⟨q3, q4⟩ := cells_gv k1
  clear h0 h1
  have Sof : ∀ W, Keeps w2 W → (W.cell? ⟨w.heap.size, 0, none⟩ = some (.int .i64 x.1) ∧ W.cell? ⟨w.heap.size, 1, none⟩ = some (.int .i64 x.2) ∧ W.cell? ⟨w.heap.size + 1, 0, none⟩ = some (.int .i64 y.1) ∧ W.cell? ⟨w.heap.size + 1, 1, none⟩ = some (.int .i64 y.2)) :=
    fun W h => ⟨cell_keep (w := w2) q1 h, cell_keep (w := w2) q2 h, cell_keep (w := w2) q3 h, cell_keep (w := w2) q4 h⟩
  have SOf := Lib.hid Sof
  have kk : Keeps w2 w2 := Below.refl _ _
  clear Sof
  go_cut [7, 8] (fun v7 v8 wr => ∃ g, v7 = .pointer (some ⟨g, 0, none⟩) ∧ v8 = .int .i64 (normG y) ∧ At wr g 23 (gv (timesG x (mateG y))) ∧ w2.heap.size ≤ g ∧ Keeps w2 wr)
  case first =>
    go_region_held3 (fun w' => w'.cell? ⟨w.heap.size, 0, none⟩ = some (.int .i64 x.1) ∧ w'.cell? ⟨w.heap.size, 1, none⟩ = some (.int .i64 x.2) ∧ w'.cell? ⟨w.heap.size + 1, 0, none⟩ = some (.int .i64 y.1) ∧ w'.cell? ⟨w.heap.size + 1, 1, none⟩ = some (.int .i64 y.2))
      (first | exact SOf.out _ (Keeps.dr kk) | exact SOf.out _ (Keeps.dr (Keeps.alloc kk _)) | exact SOf.out _ kk | exact SOf.out _ (Keeps.alloc kk _) | exact SOf.out _ (Keeps.set (Keeps.set kk _ hgl _ _) _ hgl _ _) | fail)
      (first
        | (go_at_call 25
           refine (c1 _).mono ?_
           rintro e w3 ⟨rfl, hb3⟩
           first | (have hz := At.laidD hb3; have hgl := kk.size; have kk := Keeps.next (Keeps.dr (Keeps.alloc kk _)) hb3) | (have kk := Keeps.next (Keeps.dr kk) hb3))
        | (go_at_call 24
           refine (c2 _).mono ?_
           rintro e w4 ⟨rfl, hb4⟩
           first | (have hz := At.laid hb4; have hgl := kk.size; have kk := Keeps.next (Keeps.alloc kk _) hb4) | (have hz := hz.later hb4; have kk := Keeps.next kk hb4) | (have kk := Keeps.next kk hb4))
        | (go_at_call 26
           refine (c3 _).mono ?_
           rintro e w5 ⟨rfl, hb5⟩
           first | (have hz := At.laid hb5; have hgl := kk.size; have kk := Keeps.next (Keeps.alloc kk _) hb5; obtain ⟨r50, r51, f50, f51⟩ := zero_at hz) | (have hz := hz.later hb5; have kk := Keeps.next kk hb5; obtain ⟨r50, r51, f50, f51⟩ := zero_at hz) | (have kk := Keeps.next kk hb5)))
    all_goals
      go_wp2_with fail
      go_meet
      first
        | exact ⟨_, rfl, rfl, At.new _ _ _, kk.size, Keeps.alloc kk _⟩
        | exact ⟨_, rfl, rfl, (hz.set 0 _).set 1 _, hgl, Keeps.set (Keeps.set kk _ hgl _ _) _ hgl _ _⟩
  case rest =>
    obtain ⟨g, rfl, rfl, hT, hg2, hkT⟩ := hcut
    generalize wc = wd at *
    clear c1 c2 c3 kk q1 q2 q3 q4
    obtain ⟨p1, p2⟩ := cells_gv hT
    have Sof : ∀ W, Keeps wd W → (W.cell? ⟨g, 0, none⟩ = some (.int .i64 (timesG x (mateG y)).1) ∧ W.cell? ⟨g, 1, none⟩ = some (.int .i64 (timesG x (mateG y)).2)) :=
      fun W h => ⟨cell_keep (w := wd) p1 h, cell_keep (w := wd) p2 h⟩
    have SOf := Lib.hid Sof
    have kk : Keeps wd wd := Below.refl _ _
    clear Sof
    go_upto_region 4 with (fail)
    go_cut [9] (fun v9 wr => ∃ g', v9 = .pointer (some ⟨g', 0, none⟩) ∧ At wr g' 23 (gv (divQ x y)) ∧ wd.heap.size ≤ g' ∧ Keeps wd wr)
    case first =>
      go_region_held3 (fun w' => w'.cell? ⟨g, 0, none⟩ = some (.int .i64 (timesG x (mateG y)).1) ∧ w'.cell? ⟨g, 1, none⟩ = some (.int .i64 (timesG x (mateG y)).2))
        (first | exact SOf.out _ (Keeps.dr kk) | exact SOf.out _ (Keeps.dr (Keeps.alloc kk _)) | fail)
        (first
          | (go_at_call 27; (with_reducible refine (n1 _).mono ?_); rintro e w6 ⟨rfl, rfl⟩)
          | (go_at_call 27; (with_reducible refine (n2 _).mono ?_); rintro e w6 ⟨rfl, rfl⟩))
      all_goals
        go_wp2_with fail
        go_meet
        exact ⟨_, rfl, (At.new _ _ _).drew, Nat.le_refl _, Keeps.dr (Keeps.alloc kk _)⟩
    case rest =>
      obtain ⟨g', rfl, hQ, hgQ, hkQ⟩ := hcut
      have hkW : Keeps w2 wc := Keeps.next hkT hkQ
      have x0 := k0.later hkW
      have y0 := k1.later hkW
      have r4 := (h2.later hX2).later hkW
      have r5 := (h3.later hX2).later hkW
      have hwk : Keeps w wc := Keeps.next (Keeps.next hk hX2) hkW
      have hg5 : w.heap.size + 4 ≤ g' := by have := HXs.out; have := hX2.size; have := hkT.size; omega
      clear hkT p1 p2 SOf kk n1 n2 k0 k1 h2 h3 hX2 hk HX HXs hkQ hkW hgQ hT hg2
      generalize wc = wd2 at *
      go_wp2_with (first
        | (refine load_row_w rfl 23 _ rfl g' rfl 23 _ _ _ hQ Tryd.underlying23 rfl (sizeV _) ?_)
        | (go_at_call 23; refine (i3 _).mono ?_; rintro e w3 ⟨rfl, hb3⟩; have ra := r4.later hb3; have rb := r5.later hb3; have hw := Keeps.next hwk hb3; clear i3)
        | (refine wpList_store_row rfl 23 _ _ rfl (w.heap.size + 1 + 1) (gv (0, 0)) rfl rfl 23 (gv (0, 0)) ra (sizeV _) rfl (oneV _) ?_; have ra2 := ra.row (gv (0, 0)); have rb2 := rb.rowfar (by omega) (gv (0, 0)) (g' := w.heap.size + 1 + 1); clear ra rb)
        | (refine wpList_store_row rfl 23 _ _ rfl (w.heap.size + 1 + 1 + 1) (gv (0, 0)) rfl rfl 23 (gv (0, 0)) rb2 (sizeV _) rfl (oneV _) ?_))
      exact bodyPost_ret (results_two Tryd.results9 _ _ _ _ _ _ _ _ _ rfl rfl (ra2.rowfar (by omega) (gv (0, 0)) (g' := w.heap.size + 1 + 1 + 1)) (rb2.row (gv (0, 0))) Tryd.underlying23 rfl (sizeV _) (sizeV _)) rfl ⟨rfl, below_row (below_row hw (by omega) _) (by omega) _⟩
set_option maxHeartbeats 4000000 in
set_option maxRecDepth 100000 in
theorem divide_r (x y : Int × Int) (hx : numB x.1 x.2 = true) (hy : numB y.1 y.2 = true) (hy0 : y ≠ (0, 0)) (hN : normG y ≠ 0) (hq : numB (divQ x y).1 (divQ x y).2 = true) (hr : numB (divR x y).1 (divR x y).2 = false) (w : World) :
    Calls Tryd.prog 9 #[.agg (gv x), .agg (gv y)] w fun e w' => e = .returned (.tuple #[.agg (gv (0, 0)), .agg (gv (0, 0)), .int .i64 5]) ∧ Keeps w w' := by
  have sx := sm2_of hx
  have sy := sm2_of hy
  have sq := sm2_of hq
  have i1 := fun z => isNumber_v x z
  have i2 := fun z => isNumber_v y z
  rw [hx] at i1
  rw [hy] at i2
  have c1 := fun z => mate_v y (sm2_mono sy (by decide)) z
  have c2 : ∀ z, Calls Tryd.prog 24 #[.agg (gv x), .agg (gv (mateG y))] z fun e w' => e = .returned (.agg #[.int .i64 (timesG x (mateG y)).1, .int .i64 (timesG x (mateG y)).2]) ∧ Keeps z w' := fun z => times_v x (mateG y) (sm2_mono sx (by decide)) (sm2_mono (sm2_mate sy) (by decide)) z
  have c3 := fun z => norm_v y (sm2_mono sy (by decide)) z
  have st := sm2_times sx (sm2_mate sy) (by decide) (by decide)
  have sn := sm_norm sy
  have n1 := fun z => nearest_c (timesG x (mateG y)).1 (normG y) (sm_mono st.1 (by decide)) (sm_mono sn (by decide)) hN z
  have n2 := fun z => nearest_c (timesG x (mateG y)).2 (normG y) (sm_mono st.2 (by decide)) (sm_mono sn (by decide)) hN z
  have hXb : ∃ b1 b2 : Bool, (y.1 == 0) = b1 ∧ (y.2 == 0) = b2 ∧ (b1 && b2) = false := ⟨_, _, rfl, rfl, by
    cases h1 : (y.1 == 0) <;> cases h2 : (y.2 == 0) <;> simp_all
    exact hy0 (Prod.ext h1 h2)⟩
  obtain ⟨b1, b2, hb1', hb2', hb⟩ := hXb
  have i3 := fun z => isNumber_v (divQ x y) z
  have i4 := fun z => isNumber_v (divR x y) z
  rw [hq] at i3
  rw [hr] at i4
  have sqy := sm2_times sq sy (by decide) (by decide)
  have d1 := fun z => times_v (divQ x y) y (sm2_mono sq (by decide)) (sm2_mono sy (by decide)) z
  have d2 : ∀ z, Calls Tryd.prog 28 #[.agg (gv x), .agg (gv (timesG (divQ x y) y))] z fun e w' => e = .returned (.agg #[.int .i64 (divR x y).1, .int .i64 (divR x y).2]) ∧ Keeps z w' :=
    fun z => minusB_v x (timesG (divQ x y) y) (sm2_mono sx (by decide)) (sm2_mono sqy (by decide)) z
  clear hx hy hy0 hN hq hr sx sy sq st sn sqy
  obtain ⟨X, hX⟩ : ∃ X, (((w.alloc (.cells #[.int .i64 x.1, .int .i64 x.2] 23)).alloc (.cells #[.int .i64 y.1, .int .i64 y.2] 23)).alloc (.cells #[.int .i64 0, .int .i64 0] 23)).alloc (.cells #[.int .i64 0, .int .i64 0] 23) = X := ⟨_, rfl⟩
  have hXs : X.heap.size = w.heap.size + 4 := by rw [← hX]; simp
  have h0 : At X w.heap.size 23 (gv x) := by rw [← hX]; exact (((At.new w _ _).alloc _).alloc _).alloc _
  have h1 : At X (w.heap.size + 1) 23 (gv y) := by rw [← hX]; exact ((At.new2 w _ _ _).alloc _).alloc _
  have h2 : At X (w.heap.size + 1 + 1) 23 (gv (0, 0)) := by rw [← hX]; exact (At.new3 w _ _ _ _).alloc _
  have h3 : At X (w.heap.size + 1 + 1 + 1) 23 (gv (0, 0)) := by rw [← hX]; exact At.new' _ _ (by simp) _ _
  have hk : Keeps w X := by rw [← hX]; exact Keeps.alloc (Keeps.alloc (Keeps.alloc (Keeps.alloc (Below.refl _ _) _) _) _) _
  have HX := Lib.hid hX
  have HXs := Lib.hid hXs
  clear hX hXs
  change Calls Tryd.prog 9 #[.agg #[.int .i64 x.1, .int .i64 x.2], .agg #[.int .i64 y.1, .int .i64 y.2]] w _
  go_enter Tryd.func9, Tryd.ntmps9
  go_upto_region 1 with (fail)
  rw [HX.out]
  go_cut [23] (fun v23 wr => v23 = .bool false ∧ Keeps X wr)
  case first =>
    clear c1 c2 c3 n1 n2 i3 i4 d1 d2
    cases b1 <;> cases b2
    case true.true => simp at hb
    all_goals
      go_wp2_with (first
        | (refine load_row_w rfl 23 _ rfl w.heap.size rfl 23 _ _ _ h0 Tryd.underlying23 rfl (sizeV _) ?_)
        | (refine load_row_w rfl 23 _ rfl (w.heap.size + 1) rfl 23 _ _ _ j1 Tryd.underlying23 rfl (sizeV _) ?_)
        | (refine load_row_w rfl 23 _ rfl (w.heap.size + 1) rfl 23 #[.int .i64 y.1, .int .i64 y.2] _ _ k1 Tryd.underlying23 rfl (sizeV _) ?_)
        | (go_at_call 23; (with_reducible refine (i1 _).mono ?_); rintro e w1 ⟨rfl, hb1⟩; have j1 := h1.later hb1; clear i1)
        | (go_at_call 23; (with_reducible refine (i2 _).mono ?_); rintro e w2 ⟨rfl, hb2⟩; have k1 := j1.later hb2; clear i2))
      go_meet
      exact ⟨rfl, Keeps.next hb1 hb2⟩
  case rest =>
  obtain ⟨rfl, hX2⟩ := hcut
  generalize wc = w2 at *
  clear i1 i2 hb1' hb2' hb
  go_upto_region 3 with (fail)
  have k0 := h0.later hX2
  have k1 := h1.later hX2
  obtain ⟨q1, q2⟩ := cells_gv k0
  obtain ⟨q3, q4⟩ := cells_gv k1
  clear h0 h1
  have Sof : ∀ W, Keeps w2 W → (W.cell? ⟨w.heap.size, 0, none⟩ = some (.int .i64 x.1) ∧ W.cell? ⟨w.heap.size, 1, none⟩ = some (.int .i64 x.2) ∧ W.cell? ⟨w.heap.size + 1, 0, none⟩ = some (.int .i64 y.1) ∧ W.cell? ⟨w.heap.size + 1, 1, none⟩ = some (.int .i64 y.2)) :=
    fun W h => ⟨cell_keep (w := w2) q1 h, cell_keep (w := w2) q2 h, cell_keep (w := w2) q3 h, cell_keep (w := w2) q4 h⟩
  have SOf := Lib.hid Sof
  have kk : Keeps w2 w2 := Below.refl _ _
  clear Sof
  go_cut [7, 8] (fun v7 v8 wr => ∃ g, v7 = .pointer (some ⟨g, 0, none⟩) ∧ v8 = .int .i64 (normG y) ∧ At wr g 23 (gv (timesG x (mateG y))) ∧ w2.heap.size ≤ g ∧ Keeps w2 wr)
  case first =>
    go_region_held3 (fun w' => w'.cell? ⟨w.heap.size, 0, none⟩ = some (.int .i64 x.1) ∧ w'.cell? ⟨w.heap.size, 1, none⟩ = some (.int .i64 x.2) ∧ w'.cell? ⟨w.heap.size + 1, 0, none⟩ = some (.int .i64 y.1) ∧ w'.cell? ⟨w.heap.size + 1, 1, none⟩ = some (.int .i64 y.2))
      (first | exact SOf.out _ (Keeps.dr kk) | exact SOf.out _ (Keeps.dr (Keeps.alloc kk _)) | exact SOf.out _ kk | exact SOf.out _ (Keeps.alloc kk _) | exact SOf.out _ (Keeps.set (Keeps.set kk _ hgl _ _) _ hgl _ _) | fail)
      (first
        | (go_at_call 25
           refine (c1 _).mono ?_
           rintro e w3 ⟨rfl, hb3⟩
           first | (have hz := At.laidD hb3; have hgl := kk.size; have kk := Keeps.next (Keeps.dr (Keeps.alloc kk _)) hb3) | (have kk := Keeps.next (Keeps.dr kk) hb3))
        | (go_at_call 24
           refine (c2 _).mono ?_
           rintro e w4 ⟨rfl, hb4⟩
           first | (have hz := At.laid hb4; have hgl := kk.size; have kk := Keeps.next (Keeps.alloc kk _) hb4) | (have hz := hz.later hb4; have kk := Keeps.next kk hb4) | (have kk := Keeps.next kk hb4))
        | (go_at_call 26
           refine (c3 _).mono ?_
           rintro e w5 ⟨rfl, hb5⟩
           first | (have hz := At.laid hb5; have hgl := kk.size; have kk := Keeps.next (Keeps.alloc kk _) hb5; obtain ⟨r50, r51, f50, f51⟩ := zero_at hz) | (have hz := hz.later hb5; have kk := Keeps.next kk hb5; obtain ⟨r50, r51, f50, f51⟩ := zero_at hz) | (have kk := Keeps.next kk hb5)))
    all_goals
      go_wp2_with fail
      go_meet
      first
        | exact ⟨_, rfl, rfl, At.new _ _ _, kk.size, Keeps.alloc kk _⟩
        | exact ⟨_, rfl, rfl, (hz.set 0 _).set 1 _, hgl, Keeps.set (Keeps.set kk _ hgl _ _) _ hgl _ _⟩
  case rest =>
    obtain ⟨g, rfl, rfl, hT, hg2, hkT⟩ := hcut
    generalize wc = wd at *
    clear c1 c2 c3 kk q1 q2 q3 q4
    obtain ⟨p1, p2⟩ := cells_gv hT
    have Sof : ∀ W, Keeps wd W → (W.cell? ⟨g, 0, none⟩ = some (.int .i64 (timesG x (mateG y)).1) ∧ W.cell? ⟨g, 1, none⟩ = some (.int .i64 (timesG x (mateG y)).2)) :=
      fun W h => ⟨cell_keep (w := wd) p1 h, cell_keep (w := wd) p2 h⟩
    have SOf := Lib.hid Sof
    have kk : Keeps wd wd := Below.refl _ _
    clear Sof
    go_upto_region 4 with (fail)
    go_cut [9] (fun v9 wr => ∃ g', v9 = .pointer (some ⟨g', 0, none⟩) ∧ At wr g' 23 (gv (divQ x y)) ∧ wd.heap.size ≤ g' ∧ Keeps wd wr)
    case first =>
      go_region_held3 (fun w' => w'.cell? ⟨g, 0, none⟩ = some (.int .i64 (timesG x (mateG y)).1) ∧ w'.cell? ⟨g, 1, none⟩ = some (.int .i64 (timesG x (mateG y)).2))
        (first | exact SOf.out _ (Keeps.dr kk) | exact SOf.out _ (Keeps.dr (Keeps.alloc kk _)) | fail)
        (first
          | (go_at_call 27; (with_reducible refine (n1 _).mono ?_); rintro e w6 ⟨rfl, rfl⟩)
          | (go_at_call 27; (with_reducible refine (n2 _).mono ?_); rintro e w6 ⟨rfl, rfl⟩))
      all_goals
        go_wp2_with fail
        go_meet
        exact ⟨_, rfl, (At.new _ _ _).drew, Nat.le_refl _, Keeps.dr (Keeps.alloc kk _)⟩
    case rest =>
      obtain ⟨g', rfl, hQ, hgQ, hkQ⟩ := hcut
      have hkW : Keeps w2 wc := Keeps.next hkT hkQ
      have x0 := k0.later hkW
      have y0 := k1.later hkW
      have r4 := (h2.later hX2).later hkW
      have r5 := (h3.later hX2).later hkW
      have hwk : Keeps w wc := Keeps.next (Keeps.next hk hX2) hkW
      have hg5 : w.heap.size + 4 ≤ g' := by have := HXs.out; have := hX2.size; have := hkT.size; omega
      clear hkT p1 p2 SOf kk n1 n2 k0 k1 h2 h3 hX2 hk HX HXs hkQ hkW hgQ hT hg2
      generalize wc = wd2 at *
      go_upto_region 7 with (first
        | (refine load_row_w rfl 23 _ rfl g' rfl 23 _ _ _ hQ Tryd.underlying23 rfl (sizeV _) ?_)
        | (go_at_call 23; refine (i3 _).mono ?_; rintro e w3 ⟨rfl, hb3⟩))
      obtain ⟨p1, p2⟩ := cells_gv (x0.later hb3)
      obtain ⟨p3, p4⟩ := cells_gv (y0.later hb3)
      obtain ⟨p5, p6⟩ := cells_gv (hQ.later hb3)
      have Sof : ∀ W, Keeps w3 W → (W.cell? ⟨w.heap.size, 0, none⟩ = some (.int .i64 x.1) ∧ W.cell? ⟨w.heap.size, 1, none⟩ = some (.int .i64 x.2) ∧ W.cell? ⟨w.heap.size + 1, 0, none⟩ = some (.int .i64 y.1) ∧ W.cell? ⟨w.heap.size + 1, 1, none⟩ = some (.int .i64 y.2) ∧ W.cell? ⟨g', 0, none⟩ = some (.int .i64 (divQ x y).1) ∧ W.cell? ⟨g', 1, none⟩ = some (.int .i64 (divQ x y).2)) :=
        fun W h => ⟨cell_keep (w := w3) p1 h, cell_keep (w := w3) p2 h, cell_keep (w := w3) p3 h, cell_keep (w := w3) p4 h, cell_keep (w := w3) p5 h, cell_keep (w := w3) p6 h⟩
      have SOf := Lib.hid Sof
      have kk : Keeps w3 w3 := Below.refl _ _
      clear Sof p1 p2 p3 p4 p5 p6
      go_cut [10] (fun v10 wr => ∃ h, v10 = .pointer (some ⟨h, 0, none⟩) ∧ At wr h 23 (gv (divR x y)) ∧ w3.heap.size ≤ h ∧ Keeps w3 wr)
      case first =>
        go_region_held3 (fun w' => w'.cell? ⟨w.heap.size, 0, none⟩ = some (.int .i64 x.1) ∧ w'.cell? ⟨w.heap.size, 1, none⟩ = some (.int .i64 x.2) ∧ w'.cell? ⟨w.heap.size + 1, 0, none⟩ = some (.int .i64 y.1) ∧ w'.cell? ⟨w.heap.size + 1, 1, none⟩ = some (.int .i64 y.2) ∧ w'.cell? ⟨g', 0, none⟩ = some (.int .i64 (divQ x y).1) ∧ w'.cell? ⟨g', 1, none⟩ = some (.int .i64 (divQ x y).2))
          (first | exact SOf.out _ (Keeps.dr kk) | exact SOf.out _ (Keeps.dr (Keeps.alloc kk _)) | exact SOf.out _ kk | exact SOf.out _ (Keeps.alloc kk _) | exact SOf.out _ (Keeps.set (Keeps.set kk _ hgl _ _) _ hgl _ _) | fail)
          (first
            | (go_at_call 24
               refine (d1 _).mono ?_
               rintro e w4 ⟨rfl, hb4⟩
               first | (have hz := At.laidD hb4; have hgl := kk.size; have kk := Keeps.next (Keeps.dr (Keeps.alloc kk _)) hb4) | (have kk := Keeps.next (Keeps.dr kk) hb4))
            | (go_at_call 28
               refine (d2 _).mono ?_
               rintro e w5 ⟨rfl, hb5⟩
               first | (have hz := At.laid hb5; have hgl := kk.size; have kk := Keeps.next (Keeps.alloc kk _) hb5; obtain ⟨r50, r51, f50, f51⟩ := zero_at hz) | (have hz := hz.later hb5; have kk := Keeps.next kk hb5; obtain ⟨r50, r51, f50, f51⟩ := zero_at hz) | (have kk := Keeps.next kk hb5)))
        all_goals
          go_wp2_with fail
          go_meet
          first
            | exact ⟨_, rfl, At.new _ _ _, kk.size, Keeps.alloc kk _⟩
            | exact ⟨_, rfl, (hz.set 0 _).set 1 _, hgl, Keeps.set (Keeps.set kk _ hgl _ _) _ hgl _ _⟩
      case rest =>
        obtain ⟨h, rfl, hR, hgR, hkR⟩ := hcut
        have hk3 : Keeps wd2 wc := Keeps.next hb3 hkR
        have q0 := hQ.later hk3
        have r4 := r4.later hk3
        have r5 := r5.later hk3
        have hwk := Keeps.next hwk hk3
        have hh5 : w.heap.size + 4 ≤ h := by have := hQ.lt; have := hb3.size; omega
        have hgh : g' < h := by have := hQ.lt; have := hb3.size; omega
        clear hk3 hkR hgR hb3 hQ x0 y0 kk SOf d1 d2 i3
        generalize wc = wd3 at *
        go_wp2_with (first
          | (refine load_row_w rfl 23 _ rfl h rfl 23 _ _ _ hR Tryd.underlying23 rfl (sizeV _) ?_)
          | (go_at_call 23; refine (i4 _).mono ?_; rintro e w3 ⟨rfl, hb3⟩; have ra := r4.later hb3; have rb := r5.later hb3; have hw := Keeps.next hwk hb3; clear i4)
          | (refine wpList_store_row rfl 23 _ _ rfl (w.heap.size + 1 + 1) (gv (0, 0)) rfl rfl 23 (gv (0, 0)) ra (sizeV _) rfl (oneV _) ?_; have ra2 := ra.row (gv (0, 0)); have rb2 := rb.rowfar (by omega) (gv (0, 0)) (g' := w.heap.size + 1 + 1); clear ra rb)
          | (refine wpList_store_row rfl 23 _ _ rfl (w.heap.size + 1 + 1 + 1) (gv (0, 0)) rfl rfl 23 (gv (0, 0)) rb2 (sizeV _) rfl (oneV _) ?_))
        exact bodyPost_ret (results_two Tryd.results9 _ _ _ _ _ _ _ _ _ rfl rfl (ra2.rowfar (by omega) (gv (0, 0)) (g' := w.heap.size + 1 + 1 + 1)) (rb2.row (gv (0, 0))) Tryd.underlying23 rfl (sizeV _) (sizeV _)) rfl ⟨rfl, below_row (below_row hw (by omega) _) (by omega) _⟩
end Go.Proofs.YtahkoihlpkaohaaDoor
