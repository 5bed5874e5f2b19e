/- What Divide answers at numbers; the law GaugeDivides. -/
import Derived.Test.YtahkoihlpkaohaaDoorVl
import Derived.Test.YtahkoihlpkaohaaDoorWa
namespace Go.Proofs.YtahkoihlpkaohaaDoor
open Go.RowKit
set_option linter.unusedVariables false
set_option linter.unusedSimpArgs false

/-- What Divide answers at numbers, where y is not 0. -/
def dvV (x y : Int × Int) : (Int × Int) × (Int × Int) × Int := if numB (divQ x y).1 (divQ x y).2 = true ∧ numB (divR x y).1 (divR x y).2 = true then (divQ x y, divR x y, 0) else ((0, 0), (0, 0), 5)
theorem Divide_c (x y : Int × Int) (hx : numB x.1 x.2 = true) (hy : numB y.1 y.2 = true) (hy0 : y ≠ (0, 0)) (w : World) :
    Calls Tryd.prog 9 #[.agg (gv x), .agg (gv y)] w fun e w' => e = .returned (.tuple #[.agg (gv (dvV x y).1), .agg (gv (dvV x y).2.1), .int .i64 (dvV x y).2.2]) ∧ Keeps w w' := by
  have hN := norm_ne y hy0
  unfold dvV
  cases hq : numB (divQ x y).1 (divQ x y).2
  · rw [if_neg (by simp)]; exact divide_q x y hx hy hy0 hN hq w
  · cases hr : numB (divR x y).1 (divR x y).2
    · rw [if_neg (by simp)]; exact divide_r x y hx hy hy0 hN hq hr w
    · rw [if_pos (by simp)]; exact divide_ok x y hx hy hy0 hN hq hr w
set_option maxHeartbeats 1000000 in
theorem refMinus_w (x y : Int × Int) (h : sm2 1000000000000000 x) (h' : sm2 1000000000000000 y) (w : World) :
    Calls Tryd.prog 13 #[.agg #[.int .i64 x.1, .int .i64 x.2], .agg #[.int .i64 y.1, .int .i64 y.2]] w fun e w' => e = .returned (.agg #[.int .i64 (x.1 - y.1), .int .i64 (x.2 - y.2)]) ∧ Keeps w w' := by
  unfold sm2 sm at h h'
  obtain ⟨⟨a1, a2⟩, b1, b2⟩ := h
  obtain ⟨⟨c1, c2⟩, d1, d2⟩ := h'
  have q0 : IntKind.i64.wrap (x.1 - y.1) = x.1 - y.1 := IntWalk.i64_in _ (by omega)
  have q1 : IntKind.i64.wrap (x.2 - y.2) = x.2 - y.2 := IntWalk.i64_in _ (by omega)
  have hX := At.new3 w (.cells (gv x) 23) (.cells (gv y) 23) 23 #[.int .i64 0, .int .i64 0]
  have hk : Keeps w (((w.alloc (.cells (gv x) 23)).alloc (.cells (gv y) 23)).alloc (.cells #[.int .i64 0, .int .i64 0] 23)) := Keeps.alloc (Keeps.alloc (Keeps.alloc (Below.refl _ _) _) _) _
  go_enter Tryd.func13, Tryd.ntmps13
  go_wp2_with (refine wpList_store_row rfl 23 _ _ rfl (w.heap.size + 1 + 1) #[.int .i64 (x.1 - y.1), .int .i64 (x.2 - y.2)] rfl rfl 23 #[.int .i64 0, .int .i64 0] hX (sizeG _ _) rfl (oneG _ _) ?_)
  have h3 := hX.row #[.int .i64 (x.1 - y.1), .int .i64 (x.2 - y.2)]
  refine bodyPost_ret (results_cell_row Tryd.results13 _ _ (w.heap.size + 1 + 1) _ _ _ _ rfl h3 Tryd.underlying23 rfl (sizeG _ _)) rfl ⟨rfl, below_row hk (by omega) _⟩
set_option maxHeartbeats 4000000 in
set_option maxRecDepth 100000 in
theorem divides_main (x y : Int × Int) (hx : numB x.1 x.2 = true) (hy : numB y.1 y.2 = true) (hy0 : y ≠ (0, 0)) (w : World) : Calls Tryd.prog 3 #[.agg (gv x), .agg (gv y)] w fun e w' => e = .returned (.bool true) ∧ Keeps w w' := by
  have aw := fun z => awake_c z
  have c1 := fun z => Divide_c x y hx hy hy0 z
  have i1 := fun z => refNumber_v x z
  rw [hx] at i1
  have i2 := fun z => refNumber_v y z
  rw [hy] at i2
  have c4 := fun z => refQuotient_c x y (sm2_of hx) (sm2_of hy) (norm_ne y hy0) z
  have i3 := fun z => refNumber_v (divQ x y) z
  have i4 := fun z => refNumber_v (divR x y) z
  have d1 : numB (divQ x y).1 (divQ x y).2 = true → ∀ z, Calls Tryd.prog 14 #[.agg #[.int .i64 (divQ x y).1, .int .i64 (divQ x y).2], .agg #[.int .i64 y.1, .int .i64 y.2]] z fun e w' => e = .returned (.agg #[.int .i64 (timesG (divQ x y) y).1, .int .i64 (timesG (divQ x y) y).2]) ∧ Keeps z w' := fun h z => refTimes_v (divQ x y) y (sm2_mono (sm2_of h) (by decide)) (sm2_mono (sm2_of hy) (by decide)) z
  have d2 : numB (divQ x y).1 (divQ x y).2 = true → ∀ z, Calls Tryd.prog 13 #[.agg #[.int .i64 x.1, .int .i64 x.2], .agg #[.int .i64 (timesG (divQ x y) y).1, .int .i64 (timesG (divQ x y) y).2]] z fun e w' => e = .returned (.agg #[.int .i64 (minusG x (timesG (divQ x y) y)).1, .int .i64 (minusG x (timesG (divQ x y) y)).2]) ∧ Keeps z w' := fun h z => refMinus_w x (timesG (divQ x y) y) (sm2_mono (sm2_of hx) (by decide)) (sm2_mono (sm2_times (sm2_of h) (sm2_of hy) (by decide) (by decide)) (by decide)) z
  have hXb : ∃ b1 b2 : Bool, (y.1 == 0) = b1 ∧ (y.2 == 0) = b2 ∧ (b1 && b2) = false := ⟨_, _, rfl, rfl, by
    cases h1 : (y.1 == 0) <;> cases h2 : (y.2 == 0) <;> simp_all
    exact hy0 (Prod.ext h1 h2)⟩
  obtain ⟨b1', b2', hb1', hb2', hb⟩ := hXb
  have hv : (numB (divQ x y).1 (divQ x y).2 = true ∧ numB (divR x y).1 (divR x y).2 = true → (dvV x y).1 = divQ x y ∧ (dvV x y).2.1 = divR x y ∧ (dvV x y).2.2 = 0) ∧
      (¬ (numB (divQ x y).1 (divQ x y).2 = true ∧ numB (divR x y).1 (divR x y).2 = true) → (dvV x y).1 = (0, 0) ∧ (dvV x y).2.1 = (0, 0) ∧ (dvV x y).2.2 = 5) := by
    unfold dvV; exact ⟨fun h => by rw [if_pos h]; exact ⟨rfl, rfl, rfl⟩, fun h => by rw [if_neg h]; exact ⟨rfl, rfl, rfl⟩⟩
  have hu : minusG x (timesG (divQ x y) y) = divR x y := rfl
  rw [hu] at d2
  clear hx hy hy0 hu
  generalize (dvV x y).1 = qv at *
  generalize (dvV x y).2.1 = rv at *
  generalize (dvV x y).2.2 = ee at *
  generalize divR x y = u at *
  generalize divQ x y = v at *
  generalize timesG v y = vy at *
  have HV := Lib.hid hv
  clear hv
  obtain ⟨W, hW⟩ : ∃ W, ((w.alloc (.cells #[.int .i64 x.1, .int .i64 x.2] 23)).alloc (.cells #[.int .i64 y.1, .int .i64 y.2] 23)) = W := ⟨_, rfl⟩
  have x0 : At W w.heap.size 23 (gv x) := by rw [← hW]; exact (At.new w _ _).alloc _
  have y0 : At W (w.heap.size + 1) 23 (gv y) := by rw [← hW]; exact At.new2 w _ _ _
  have k0 : Keeps w W := by rw [← hW]; exact Keeps.alloc (Keeps.alloc (Below.refl _ _) _) _
  have HW := Lib.hid hW
  clear hW
  change Calls Tryd.prog 3 #[.agg #[.int .i64 x.1, .int .i64 x.2], .agg #[.int .i64 y.1, .int .i64 y.2]] w _
  go_enter Tryd.func3, Tryd.ntmps3
  go_upto_region 1 with (fail)
  rw [HW.out]
  clear HW
  go_upto_region 2 with (first
    | (refine load_row_w rfl 23 _ rfl _ rfl 23 _ _ _ x0 Tryd.underlying23 rfl (sizeV _) ?_)
    | (refine load_row_w rfl 23 _ rfl _ rfl 23 _ _ _ y0 Tryd.underlying23 rfl (sizeV _) ?_)
    | (go_at_call 9
       (with_reducible refine (c1 _).mono ?_)
       rintro e w1 ⟨rfl, b1⟩
       have g0 : At ((w1.alloc (.cells (gv (0, 0)) 23)).alloc (.cells (gv (0, 0)) 23)) w1.heap.size 23 (gv (0, 0)) := (At.new w1 _ _).alloc _
       have s0 : At ((w1.alloc (.cells (gv (0, 0)) 23)).alloc (.cells (gv (0, 0)) 23)) (w1.heap.size + 1) 23 (gv (0, 0)) := At.new2 w1 _ _ _
       have s1 := s0.rowfar (by omega) (gv qv) (g' := w1.heap.size)
       have g2 := (g0.row (gv qv)).rowfar (by omega) (gv rv) (g' := w1.heap.size + 1)
       have s2 := s1.row (gv rv)
       have dd := below_row (below_row (Keeps.alloc (Keeps.alloc b1 (.cells (gv (0, 0)) 23)) (.cells (gv (0, 0)) 23)) b1.size (gv qv)) (Nat.le_succ_of_le b1.size) (gv rv)
       have x1 := x0.later dd
       have y1 := y0.later dd
       have k1 := Keeps.next k0 dd
       clear c1 x0 y0)
    | (refine wpList_store_row rfl 23 _ _ rfl (w1.heap.size) (gv qv) rfl rfl 23 (gv (0, 0)) g0 (sizeV _) rfl (oneV _) ?_)
    | (refine wpList_store_row rfl 23 _ _ rfl (w1.heap.size + 1) (gv rv) rfl rfl 23 (gv (0, 0)) s1 (sizeV _) rfl (oneV _) ?_))
  go_cut [29] (fun v29 wr => v29 = .bool false ∧ At wr w.heap.size 23 (gv x) ∧ At wr (w.heap.size + 1) 23 (gv y) ∧ At wr w1.heap.size 23 (gv qv) ∧ At wr (w1.heap.size + 1) 23 (gv rv) ∧ Keeps w wr)
  case first =>
    clear c4 i3 i4 aw d1 d2 HV
    cases b1' <;> cases b2'
    case true.true => simp at hb
    all_goals
      go_wp2_with (first
        | (refine load_row_w rfl 23 _ rfl _ rfl 23 _ _ _ x1 Tryd.underlying23 rfl (sizeV _) ?_)
        | (refine load_row_w rfl 23 _ rfl _ rfl 23 _ _ _ y2 Tryd.underlying23 rfl (sizeV _) ?_)
        | (refine load_row_w rfl 23 _ rfl _ rfl 23 #[.int .i64 y.1, .int .i64 y.2] _ _ y3 Tryd.underlying23 rfl (sizeG _ _) ?_)
        | (go_at_call 10; (with_reducible refine (i1 _).mono ?_); rintro e w2 ⟨rfl, b2⟩; have x2 := x1.later b2; have y2 := y1.later b2; have g3 := g2.later b2; have s3 := s2.later b2; have k2 := Keeps.next k1 b2; clear i1 x1 y1 g2 s2)
        | (go_at_call 10; (with_reducible refine (i2 _).mono ?_); rintro e w3 ⟨rfl, b3⟩; have x3 := x2.later b3; have y3 := y2.later b3; have g4 := g3.later b3; have s4 := s3.later b3; have k3 := Keeps.next k2 b3; clear i2 x2 y2 g3 s3))
      go_meet
      exact ⟨rfl, x3, y3, g4, s4, k3⟩
  case rest =>
  obtain ⟨rfl, x3, y3, g4, s4, k3⟩ := hcut
  clear i1 i2 hb1' hb2' hb
  generalize wc = wA at *
  generalize w1.heap.size = q1 at *
  go_upto_region 5 with (first
    | (refine load_row_w rfl 23 _ rfl _ rfl 23 _ _ _ x3 Tryd.underlying23 rfl (sizeV _) ?_)
    | (refine load_row_w rfl 23 _ rfl _ rfl 23 _ _ _ y3 Tryd.underlying23 rfl (sizeV _) ?_)
    | (go_at_call 12
       (with_reducible refine (c4 _).mono ?_)
       rintro e w4 ⟨rfl, b4⟩
       have h0 := At.new w4 23 (gv (0, 0))
       have h1 := h0.row (gv v)
       have dq := below_row (Keeps.alloc b4 (.cells (gv (0, 0)) 23)) b4.size (gv v)
       have x4 := x3.later dq
       have y4 := y3.later dq
       have g5 := g4.later dq
       have s5 := s4.later dq
       have k4 := Keeps.next k3 dq
       clear c4 x3 y3 g4 s4)
    | (refine wpList_store_row rfl 23 _ _ rfl (w4.heap.size) (gv v) rfl rfl 23 (gv (0, 0)) h0 (sizeV _) rfl (oneV _) ?_))
  cases hv : numB v.1 v.2
  · obtain ⟨rfl, rfl, rfl⟩ := HV.out.2 (by rw [hv]; simp)
    rw [hv] at i3
    clear HV hv i4 d1 d2
    go_wp2_with (first
      | (refine load_row_w rfl 23 _ rfl _ rfl 23 _ _ _ h1 Tryd.underlying23 rfl (sizeV _) ?_)
      | (go_at_call 10; (with_reducible refine (i3 _).mono ?_); rintro e w5 ⟨rfl, b5⟩; have x5 := x4.later b5; have y5 := y4.later b5; have g6 := g5.later b5; have s6 := s5.later b5; have h2 := h1.later b5; have k5 := Keeps.next k4 b5; clear i3 x4 y4 g5 s5 h1)
      | (refine load_row_w rfl 23 _ rfl _ rfl 23 #[.int .i64 0, .int .i64 0] _ _ g6 Tryd.underlying23 rfl (sizeG _ _) ?_)
      | (refine load_row_w rfl 23 _ rfl _ rfl 23 #[.int .i64 0, .int .i64 0] _ _ s6 Tryd.underlying23 rfl (sizeG _ _) ?_)
      | (go_at_call 11; refine (aw _).mono ?_; rintro e w9 ⟨rfl, b9⟩))
    go_ret
    exact ⟨rfl, Keeps.next k5 b9⟩
  · have d1 := d1 hv
    have d2 := d2 hv
    rw [hv] at i3
    go_upto_region 6 with (first
      | (refine load_row_w rfl 23 _ rfl _ rfl 23 _ _ _ h1 Tryd.underlying23 rfl (sizeV _) ?_)
      | (go_at_call 10; (with_reducible refine (i3 _).mono ?_); rintro e w5 ⟨rfl, b5⟩; have x5 := x4.later b5; have y5 := y4.later b5; have g6 := g5.later b5; have s6 := s5.later b5; have h2 := h1.later b5; have k5 := Keeps.next k4 b5; clear i3 x4 y4 g5 s5 h1))
    obtain ⟨x5a, x5b⟩ := cells_gv x5
    obtain ⟨y5a, y5b⟩ := cells_gv y5
    obtain ⟨h2a, h2b⟩ := cells_gv h2
    have Sof : ∀ w', Keeps w5 w' → (w'.cell? ⟨w.heap.size, 0, none⟩ = some (.int .i64 x.1) ∧ w'.cell? ⟨w.heap.size, 1, none⟩ = some (.int .i64 x.2) ∧ w'.cell? ⟨w.heap.size + 1, 0, none⟩ = some (.int .i64 y.1) ∧ w'.cell? ⟨w.heap.size + 1, 1, none⟩ = some (.int .i64 y.2) ∧ w'.cell? ⟨w4.heap.size, 0, none⟩ = some (.int .i64 v.1) ∧ w'.cell? ⟨w4.heap.size, 1, none⟩ = some (.int .i64 v.2)) :=
      fun w' h => ⟨cell_keep (w := w5) x5a h, cell_keep (w := w5) x5b h, cell_keep (w := w5) y5a h, cell_keep (w := w5) y5b h, cell_keep (w := w5) h2a h, cell_keep (w := w5) h2b h⟩
    have SOf := Lib.hid Sof
    have kk : Keeps w5 w5 := Below.refl _ _
    clear Sof x5a x5b y5a y5b h2a h2b
    clear x5 y5
    go_cut [9] (fun v9 wr => ∃ h, v9 = .pointer (some ⟨h, 0, none⟩) ∧ At wr h 23 (gv u) ∧ w5.heap.size ≤ h ∧ Keeps w5 wr)
    case first =>
      clear aw i4 HV hv g6 s6 h2 k5
      go_region_held3 (fun w' => w'.cell? ⟨w.heap.size, 0, none⟩ = some (.int .i64 x.1) ∧ w'.cell? ⟨w.heap.size, 1, none⟩ = some (.int .i64 x.2) ∧ w'.cell? ⟨w.heap.size + 1, 0, none⟩ = some (.int .i64 y.1) ∧ w'.cell? ⟨w.heap.size + 1, 1, none⟩ = some (.int .i64 y.2) ∧ w'.cell? ⟨w4.heap.size, 0, none⟩ = some (.int .i64 v.1) ∧ w'.cell? ⟨w4.heap.size, 1, none⟩ = some (.int .i64 v.2))
        (first | exact SOf.out _ (Keeps.dr kk) | exact SOf.out _ (Keeps.dr (Keeps.alloc kk _)) | exact SOf.out _ kk | exact SOf.out _ (Keeps.alloc kk _) | exact SOf.out _ (Keeps.set (Keeps.set kk _ hgl _ _) _ hgl _ _) | fail)
        (first
          | (go_at_call 14
             refine (d1 _).mono ?_
             rintro e w6 ⟨rfl, hb4⟩
             first | (have hz := At.laidD hb4; have hgl := kk.size; have kk := Keeps.next (Keeps.dr (Keeps.alloc kk _)) hb4) | (have kk := Keeps.next (Keeps.dr kk) hb4))
          | (go_at_call 13
             refine (d2 _).mono ?_
             rintro e w7 ⟨rfl, hb5⟩
             first | (have hz := At.laid hb5; have hgl := kk.size; have kk := Keeps.next (Keeps.alloc kk _) hb5; obtain ⟨r50, r51, f50, f51⟩ := zero_at hz) | (have hz := hz.later hb5; have kk := Keeps.next kk hb5; obtain ⟨r50, r51, f50, f51⟩ := zero_at hz) | (have kk := Keeps.next kk hb5)))
      all_goals
        go_wp2_with fail
        go_meet
        first
          | exact ⟨_, rfl, At.new _ _ _, kk.size, Keeps.alloc kk _⟩
          | exact ⟨_, rfl, (hz.set 0 _).set 1 _, hgl, Keeps.set (Keeps.set kk _ hgl _ _) _ hgl _ _⟩
    case rest =>
    obtain ⟨h, rfl, hR, hgR, hkR⟩ := hcut
    have g7 := g6.later hkR
    have s7 := s6.later hkR
    have h3 := h2.later hkR
    have k7 := Keeps.next k5 hkR
    clear kk SOf d1 d2 hkR hgR g6 s6 h2
    generalize wc = wB at *
    cases hu : numB u.1 u.2
    · obtain ⟨rfl, rfl, rfl⟩ := HV.out.2 (by rw [hu]; simp)
      rw [hu] at i4
      clear HV hu hv
      go_wp2_with (first
        | (refine load_row_w rfl 23 _ rfl _ rfl 23 _ _ _ hR Tryd.underlying23 rfl (sizeV _) ?_)
        | (go_at_call 10; (with_reducible refine (i4 _).mono ?_); rintro e w8 ⟨rfl, b8⟩; have g8 := g7.later b8; have s8 := s7.later b8; have h4 := h3.later b8; have r8 := hR.later b8; have k8 := Keeps.next k7 b8; clear i4 g7 s7 h3 hR)
        | (refine load_row_w rfl 23 _ rfl _ rfl 23 #[.int .i64 0, .int .i64 0] _ _ g8 Tryd.underlying23 rfl (sizeG _ _) ?_)
        | (refine load_row_w rfl 23 _ rfl _ rfl 23 #[.int .i64 0, .int .i64 0] _ _ s8 Tryd.underlying23 rfl (sizeG _ _) ?_)
        | (go_at_call 11; refine (aw _).mono ?_; rintro e w9 ⟨rfl, b9⟩))
      go_ret
      exact ⟨rfl, Keeps.next k8 b9⟩
    · obtain ⟨rfl, rfl, rfl⟩ := HV.out.1 ⟨hv, hu⟩
      rw [hu] at i4
      clear HV hu hv
      go_wp2_with (first
        | (refine load_row_w rfl 23 _ rfl _ rfl 23 _ _ _ hR Tryd.underlying23 rfl (sizeV _) ?_)
        | (go_at_call 10; (with_reducible refine (i4 _).mono ?_); rintro e w8 ⟨rfl, b8⟩; have g8 := g7.later b8; have s8 := s7.later b8; have h4 := h3.later b8; have r8 := hR.later b8; have k8 := Keeps.next k7 b8; clear i4 g7 s7 h3 hR)
        | (refine load_row_w rfl 23 _ rfl _ rfl 23 #[.int .i64 qv.1, .int .i64 qv.2] _ _ g8 Tryd.underlying23 rfl (sizeG _ _) ?_)
        | (refine load_row_w rfl 23 _ rfl _ rfl 23 #[.int .i64 rv.1, .int .i64 rv.2] _ _ s8 Tryd.underlying23 rfl (sizeG _ _) ?_)
        | (refine load_row_w rfl 23 _ rfl _ rfl 23 #[.int .i64 qv.1, .int .i64 qv.2] _ _ h4 Tryd.underlying23 rfl (sizeG _ _) ?_)
        | (refine load_row_w rfl 23 _ rfl _ rfl 23 #[.int .i64 rv.1, .int .i64 rv.2] _ _ r8 Tryd.underlying23 rfl (sizeG _ _) ?_)
        | (go_at_call 11; refine (aw _).mono ?_; rintro e w9 ⟨rfl, b9⟩))
      go_ret
      exact ⟨rfl, Keeps.next k8 b9⟩
theorem law_divides (a b c d : Int) (w : World) : Calls Tryd.prog 3 #[.agg #[.int .i64 a, .int .i64 b], .agg #[.int .i64 c, .int .i64 d]] w fun e w' => e = .returned (.bool true) ∧ Keeps w w' := by
  cases hx : numB a b
  · exact divides_x (a, b) (c, d) hx w
  · cases hy : numB c d
    · exact divides_y (a, b) (c, d) hx hy w
    · by_cases hy0 : (c, d) = ((0, 0) : Int × Int)
      · have h1 := congrArg Prod.fst hy0
        have h2 := congrArg Prod.snd hy0
        simp only at h1 h2
        subst h1 h2
        exact divides_0 (a, b) hx w
      · exact divides_main (a, b) (c, d) hx hy hy0 w
end Go.Proofs.YtahkoihlpkaohaaDoor
