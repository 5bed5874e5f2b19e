/- The walks of Floor and of the reference's floor, norm and mate; the law GaugeFloors. -/
import Derived.Test.YtnpelnhfbbihkaaDoorVf
namespace Go.Proofs.YtnpelnhfbbihkaaDoor
open Go.RowKit
set_option linter.unusedVariables false
set_option linter.unusedSimpArgs false

set_option maxHeartbeats 1000000 in
theorem refNorm_c (a b : Int) (ha : sm 1000000000 a) (hb : sm 1000000000 b) (w : World) :
    Calls Tryd.prog 18 #[.agg #[.int .i64 a, .int .i64 b]] w fun e w' => e = .returned (.int .i64 (a * a + a * b - b * b)) ∧ w.alloc (.cells #[.int .i64 a, .int .i64 b] 23) = w' := by
  have m1 := sm_mul 1000000000 1000000000 a a ha ha (by decide) (by decide)
  have m2 := sm_mul 1000000000 1000000000 a b ha hb (by decide) (by decide)
  have m3 := sm_mul 1000000000 1000000000 b b hb hb (by decide) (by decide)
  unfold sm at m1 m2 m3
  have q1 : IntKind.i64.wrap (a * a) = a * a := IntWalk.i64_in _ (by omega)
  have q2 : IntKind.i64.wrap (a * b) = a * b := IntWalk.i64_in _ (by omega)
  have q3 : IntKind.i64.wrap (b * b) = b * b := IntWalk.i64_in _ (by omega)
  have q4 : IntKind.i64.wrap (a * a + a * b) = a * a + a * b := IntWalk.i64_in _ (by omega)
  have q5 : IntKind.i64.wrap (a * a + a * b - b * b) = a * a + a * b - b * b := IntWalk.i64_in _ (by omega)
  clear m1 m2 m3
  go_enter Tryd.func18, Tryd.ntmps18
  go_wp2_with fail
  go_ret
  exact ⟨rfl, rfl⟩
set_option maxHeartbeats 1000000 in
theorem refMate_c (a b : Int) (ha : sm 1000000000000 a) (hb : sm 1000000000000 b) (w : World) :
    Calls Tryd.prog 19 #[.agg #[.int .i64 a, .int .i64 b]] w fun e w' => e = .returned (.agg #[.int .i64 (a + b), .int .i64 (-b)]) ∧ Keeps w w' := by
  have ha2 := ha
  unfold sm at ha2
  obtain ⟨a1, a2⟩ := ha2
  have hb2 := hb
  unfold sm at hb2
  obtain ⟨b1, b2⟩ := hb2
  have hX := At.new2 w (.cells #[.int .i64 a, .int .i64 b] 23) 23 #[.int .i64 0, .int .i64 0]
  have hk : Keeps w ((w.alloc (.cells #[.int .i64 a, .int .i64 b] 23)).alloc (.cells #[.int .i64 0, .int .i64 0] 23)) := Keeps.alloc (Keeps.alloc (Below.refl _ _) _) _
  go_enter Tryd.func19, Tryd.ntmps19
  go_wp2_with (refine wpList_store_row rfl 23 _ _ rfl (w.heap.size + 1) #[.int .i64 (a + b), .int .i64 (-b)] rfl rfl 23 #[.int .i64 0, .int .i64 0] hX (sizeG _ _) rfl (oneG _ _) ?_)
  have h3 := hX.row #[.int .i64 (a + b), .int .i64 (-b)]
  refine bodyPost_ret (results_cell_row Tryd.results19 _ _ (w.heap.size + 1) _ _ _ _ rfl h3 Tryd.underlying23 rfl (sizeG _ _)) rfl ⟨rfl, below_row hk (by omega) _⟩

theorem root_small (r : Nat) (b : Int) (hb : sm 1000000 b) (h1 : (r : Int) * r ≤ 5 * b * b) : r ≤ 2236068 := by
  have hbb := sm_mul _ _ _ _ hb hb (by decide) (by decide)
  unfold sm at hbb
  rw [Int.mul_assoc] at h1
  rcases Nat.lt_or_ge 2236068 r with h | h
  · have h2 := Nat.mul_le_mul h h
    have h3 : ((r * r : Nat) : Int) = (r : Int) * r := Int.natCast_mul _ _
    omega
  · exact h
theorem flr_in (a b : Int) (r : Nat) (ha : sm 1000000 a) (hb : sm 1000000 b) (hr : r ≤ 2236068) : -2700000 ≤ flr a b r ∧ flr a b r ≤ 2700000 := by
  unfold flr sm at *
  split <;> omega
set_option maxHeartbeats 1000000 in
theorem Floor_no (x : Int × Int) (hx : numB x.1 x.2 = false) (w : World) :
    Calls Tryd.prog 14 #[.agg (gv x)] w fun e w' => e = .returned (.tuple #[.int .i64 0, .int .i64 2]) ∧ Keeps w w' := by
  have i1 := fun z => isNumber_v x z
  rw [hx] at i1
  have a0 := At.new w 23 (gv x)
  have k0 : Keeps w (w.alloc (.cells (gv x) 23)) := Keeps.alloc (Below.refl _ _) _
  clear hx
  change Calls Tryd.prog 14 #[.agg #[.int .i64 x.1, .int .i64 x.2]] w _
  go_enter Tryd.func14, Tryd.ntmps14
  go_wp2_with (first
    | (refine load_row_w rfl 23 _ rfl _ rfl 23 _ _ _ (by assumption) Tryd.underlying23 rfl (sizeV _) ?_)
    | (go_at_call 27; refine (i1 _).mono ?_; rintro e w1 ⟨rfl, b1⟩; have a1 := a0.later b1))
  go_ret2
  exact ⟨rfl, Keeps.next k0 b1⟩
theorem search_floor (x : Int × Int) (r : Nat) (b : Nat) (hx : sm2 1000000 x) (h1 : (r : Int) * r ≤ 5 * x.2 * x.2) (h2 : 5 * x.2 * x.2 < ((r : Int) + 1) * (r + 1)) (w : World) (hb : At w b 23 (gv x)) :
    Calls Tryd.prog 33 #[.int .i64 6000000, .func (.func 34) #[] #[.pointer (some ⟨b, 0, none⟩)]] w fun e w' => e = .returned (.int .i64 (flr x.1 x.2 r + 3000001)) ∧ Keeps w w' := by
  have hr := root_small r x.2 hx.2 h1
  have hf := flr_in x.1 x.2 r hx.1 hx.2 hr
  have h := search_c 34 #[.pointer (some ⟨b, 0, none⟩)] 6000000 (flr x.1 x.2 r + 3000001).toNat (Nat.le_refl _) (by omega) w (enters_of Tryd.func34 (by kernel_rfl) rfl)
    (fun i W hi hk => by
      have hc := closure_c x b i W hx hi (hb.later hk)
      have e : decide (sgn (x.1 - ((i : Int) - 3000000)) x.2 < 0) = decide ((flr x.1 x.2 r + 3000001).toNat ≤ i) := by
        rw [decide_eq_decide, flr_sgn x.1 x.2 _ r h1 h2]
        omega
      rw [e] at hc
      exact hc)
  rw [Int.toNat_of_nonneg (by omega)] at h
  exact h
set_option maxHeartbeats 1000000 in
theorem Floor_yes (x : Int × Int) (hx : numB x.1 x.2 = true) (r : Nat) (h1 : (r : Int) * r ≤ 5 * x.2 * x.2) (h2 : 5 * x.2 * x.2 < ((r : Int) + 1) * (r + 1)) (w : World) :
    Calls Tryd.prog 14 #[.agg (gv x)] w fun e w' => e = .returned (.tuple #[.int .i64 (flr x.1 x.2 r), .int .i64 0]) ∧ Keeps w w' := by
  have i1 := fun z => isNumber_v x z
  rw [hx] at i1
  have sc := fun z => search_floor x r w.heap.size (sm2_of hx) h1 h2 z
  have hr := root_small r x.2 (sm2_of hx).2 h1
  have hf := flr_in x.1 x.2 r (sm2_of hx).1 (sm2_of hx).2 hr
  have a0 := At.new w 23 (gv x)
  have k0 : Keeps w (w.alloc (.cells (gv x) 23)) := Keeps.alloc (Below.refl _ _) _
  clear hx h1 h2 hr
  generalize flr x.1 x.2 r = f at *
  have q1 : IntKind.i64.wrap (f + 3000001 - 3000000) = f + 3000001 - 3000000 := IntWalk.i64_in _ (by omega)
  have q2 : IntKind.i64.wrap (f + 3000001 - 3000000 - 1) = f + 3000001 - 3000000 - 1 := IntWalk.i64_in _ (by omega)
  have q3 : f + 3000001 - 3000000 - 1 = f := by omega
  have Q3 := Lib.hid q3
  clear q3
  change Calls Tryd.prog 14 #[.agg #[.int .i64 x.1, .int .i64 x.2]] w _
  go_enter Tryd.func14, Tryd.ntmps14
  go_wp2_with (first
    | (refine load_row_w rfl 23 _ rfl _ rfl 23 _ _ _ (by assumption) Tryd.underlying23 rfl (sizeV _) ?_)
    | (go_at_call 27; refine (i1 _).mono ?_; rintro e w1 ⟨rfl, b1⟩; have a1 := a0.later b1)
    | (go_at_call 33; refine (sc _ a1).mono ?_; rintro e w2 ⟨rfl, b2⟩))
  go_ret2
  refine ⟨?_, Keeps.next (Keeps.next k0 b1) b2⟩
  change Ending.returned (.tuple #[.int .i64 (f + 3000001 - 3000000 - 1), .int .i64 0]) = _
  rw [Q3.out]
set_option maxHeartbeats 1000000 in
theorem refFloor_c (x : Int × Int) (hx : sm2 1000000 x) (r : Nat) (h1 : (r : Int) * r ≤ 5 * x.2 * x.2) (h2 : 5 * x.2 * x.2 < ((r : Int) + 1) * (r + 1)) (w : World) :
    Calls Tryd.prog 17 #[.agg #[.int .i64 x.1, .int .i64 x.2]] w fun e w' => e = .returned (.int .i64 (flr x.1 x.2 r)) ∧ Keeps w w' := by
  have hr := root_small r x.2 hx.2 h1
  obtain ⟨a, b⟩ := x
  simp only at *
  obtain ⟨B, hB⟩ : ∃ B : Nat, b.natAbs = B := ⟨_, rfl⟩
  have hBB : 5 * b * b = ((5 * B * B : Nat) : Int) := by
    subst hB
    rw [Int.mul_assoc, ← Int.natAbs_mul_self' b, Int.natCast_mul, Int.natCast_mul, Int.mul_assoc]; rfl
  rw [hBB] at h1 h2
  have hsx := hx
  unfold sm2 sm at hsx
  simp only at hsx
  obtain ⟨⟨ha1, ha2⟩, hb1, hb2⟩ := hsx
  have hBs : B ≤ 1000000 := by omega
  have hBm := Nat.mul_le_mul hBs hBs
  have hBm2 : 5 * B * B ≤ 5000000000000 := by rw [Nat.mul_assoc]; omega
  have e6 : ((r : Int) + 1) * (r + 1) = (((r + 1) * (r + 1) : Nat) : Int) := by rw [Int.natCast_mul]; rfl
  have h3 : 5 * B * B < (r + 1) * (r + 1) := by rw [e6] at h2; omega
  have h4 : r * r ≤ 5 * B * B := by rw [← Int.natCast_mul] at h1; omega
  have rc := fun z => root_c (5 * B * B) r h4 h3 (by omega) (by omega) z
  clear e6 h3 h4
  have e5 : ((5 * B * B : Nat) : Int) = 5 * (B : Int) * B := by rw [Int.natCast_mul, Int.natCast_mul]; rfl
  rw [e5] at rc
  rw [e5] at hBB
  have hk : Keeps w (w.alloc (.cells #[.int .i64 a, .int .i64 b] 23)) := Keeps.alloc (Below.refl _ _) _
  have HB := Lib.hid hB
  have q0 : IntKind.i64.wrap (-b) = -b := IntWalk.i64_in _ (by omega)
  have q1 : IntKind.i64.wrap (5 * (B : Int)) = 5 * (B : Int) := IntWalk.i64_in _ (by omega)
  have q2 : IntKind.i64.wrap (5 * (B : Int) * B) = 5 * (B : Int) * B := IntWalk.i64_in _ (by omega)
  have q3 : IntKind.i64.wrap ((B : Int) + r) = (B : Int) + r := IntWalk.i64_in _ (by omega)
  have q4 : ((B : Int) + r).tdiv 2 = ((B : Int) + r) / 2 := Int.tdiv_eq_ediv_of_nonneg (by omega)
  have q5 : IntKind.i64.wrap (((B : Int) + r) / 2) = ((B : Int) + r) / 2 := IntWalk.i64_in _ (by omega)
  have q6 : IntKind.i64.wrap (a - ((B : Int) + r) / 2) = a - ((B : Int) + r) / 2 := IntWalk.i64_in _ (by omega)
  have q7 : IntKind.i64.wrap (a - ((B : Int) + r) / 2 - 1) = a - ((B : Int) + r) / 2 - 1 := IntWalk.i64_in _ (by omega)
  have q8 : IntKind.i64.wrap (a + ((B : Int) + r) / 2) = a + ((B : Int) + r) / 2 := IntWalk.i64_in _ (by omega)
  have hfl : flr a b r = if b < 0 then a - ((B : Int) + r) / 2 - 1 else a + ((B : Int) + r) / 2 := by
    unfold flr
    split <;> congr <;> omega
  rw [hfl]
  obtain ⟨F, hF⟩ : ∃ F, (if b < 0 then a - ((B : Int) + r) / 2 - 1 else a + ((B : Int) + r) / 2) = F := ⟨_, rfl⟩
  rw [hF]
  have HF := Lib.hid hF
  clear hF
  clear hfl hB hBB e5 hBm hBm2 h1 h2 hx
  go_enter Tryd.func17, Tryd.ntmps17
  go_upto_region 1 with (fail)
  go_cut [3] (fun v3 wr => v3 = .int .i64 (B : Int) ∧ wr = w.alloc (.cells #[.int .i64 a, .int .i64 b] 23))
  case first =>
    go_wp2_with fail
    all_goals
      have hB := HB.out
      go_meet
      exact ⟨by congr 1; omega, rfl⟩
  case rest =>
    obtain ⟨rfl, rfl⟩ := hcut
    by_cases hb : b < 0
    · have d1 : decide (b < 0) = true := by simpa using hb
      have Hb := Lib.hid hb
      clear hb
      go_wp2_with (go_at_call 38; refine (rc _).mono ?_; rintro e w1 ⟨rfl, rfl⟩)
      go_ret
      have hF := HF.out
      rw [if_pos Hb.out] at hF
      subst hF
      exact ⟨rfl, hk⟩
    · have d1 : decide (b < 0) = false := by simpa using hb
      have Hb := Lib.hid hb
      clear hb
      go_wp2_with (go_at_call 38; refine (rc _).mono ?_; rintro e w1 ⟨rfl, rfl⟩)
      go_ret
      have hF := HF.out
      rw [if_neg (by have := Hb.out; omega)] at hF
      subst hF
      exact ⟨rfl, hk⟩

theorem refNorm_v (x : Int × Int) (h : sm2 1000000000 x) (w : World) : Calls Tryd.prog 18 #[.agg #[.int .i64 x.1, .int .i64 x.2]] w fun e w' => e = .returned (.int .i64 (normG x)) ∧ Keeps w w' :=
  (refNorm_c x.1 x.2 h.1 h.2 w).mono fun e w' ⟨he, hw⟩ => ⟨he, by subst hw; exact Keeps.alloc (Below.refl _ _) _⟩
theorem refMate_v (x : Int × Int) (h : sm2 1000000000000 x) (w : World) : Calls Tryd.prog 19 #[.agg #[.int .i64 x.1, .int .i64 x.2]] w fun e w' => e = .returned (.agg #[.int .i64 (mateG x).1, .int .i64 (mateG x).2]) ∧ Keeps w w' := refMate_c x.1 x.2 h.1 h.2 w
set_option maxHeartbeats 2000000 in
theorem floors_no (x : Int × Int) (hx : numB x.1 x.2 = false) (w : World) :
    Calls Tryd.prog 4 #[.agg (gv x)] w fun e w' => e = .returned (.bool true) ∧ Keeps w w' := by
  have aw := fun z => awake_c z
  have c1 := fun z => Floor_no x hx z
  have c2 := fun z => Norm_no x hx z
  have c3 := fun z => Mate_no x hx z
  have c4 := fun z => refNumber_v x z
  rw [hx] at c4
  have x0 := At.new w 23 (gv x)
  have k0 : Keeps w (w.alloc (.cells (gv x) 23)) := Keeps.alloc (Below.refl _ _) _
  clear hx
  change Calls Tryd.prog 4 #[.agg #[.int .i64 x.1, .int .i64 x.2]] w _
  go_enter Tryd.func4, Tryd.ntmps4
  go_wp2_with (first
    | (refine load_row_w rfl 23 _ rfl _ rfl 23 #[.int .i64 0, .int .i64 0] _ _ m4 Tryd.underlying23 rfl (sizeG _ _) ?_)
    | (refine load_row_w rfl 23 _ rfl _ rfl 23 _ _ _ (by assumption) Tryd.underlying23 rfl (sizeV _) ?_)
    | (refine wpList_store_row rfl 23 _ _ rfl _ (gv (0, 0)) rfl rfl 23 (gv (0, 0)) (by assumption) (sizeV _) rfl (oneV _) ?_)
    | (go_at_call 14; refine (c1 _).mono ?_; rintro e w1 ⟨rfl, b1⟩; have x1 := x0.later b1; have k1 := Keeps.next k0 b1; clear x0)
    | (go_at_call 15; refine (c2 _).mono ?_; rintro e w2 ⟨rfl, b2⟩; have x2 := x1.later b2; have k2 := Keeps.next k1 b2; clear x1)
    | (go_at_call 16
       refine (c3 _).mono ?_
       rintro e w3 ⟨rfl, b3⟩
       have r3 := At.new w3 23 (gv (0, 0))
       have m3 := r3.row (gv (0, 0))
       have d3 := below_row (Keeps.alloc b3 (.cells (gv (0, 0)) 23)) b3.size (gv (0, 0))
       have x3 := x2.later d3
       have k3 := Keeps.next k2 d3
       clear x2)
    | (go_at_call 10; refine (c4 _).mono ?_; rintro e w4 ⟨rfl, b4⟩; have m4 := m3.later b4; have k4 := Keeps.next k3 b4; clear x3)
    | (go_at_call 11; refine (aw _).mono ?_; rintro e w9 ⟨rfl, b9⟩))
  go_ret
  exact ⟨rfl, Keeps.next k4 b9⟩
set_option maxHeartbeats 2000000 in
set_option maxRecDepth 100000 in
theorem floors_full (x : Int × Int) (hx : numB x.1 x.2 = true) (hm : numB (mateG x).1 (mateG x).2 = false) (w : World) :
    Calls Tryd.prog 4 #[.agg (gv x)] w fun e w' => e = .returned (.bool true) ∧ Keeps w w' := by
  have sx := sm2_of hx
  have hbb := sm_mul _ _ _ _ sx.2 sx.2 (by decide) (by decide)
  have hnn : 0 ≤ 5 * x.2 * x.2 := by
    rw [Int.mul_assoc]
    rcases Int.lt_trichotomy x.2 0 with h | h | h
    · have := Int.mul_pos_of_neg_of_neg h h; omega
    · rw [h]; decide
    · have := Int.mul_pos h h; omega
  obtain ⟨r, h1, h2⟩ := root_ex (5 * x.2 * x.2).toNat
  have h1' : (r : Int) * r ≤ 5 * x.2 * x.2 := by rw [← Int.natCast_mul]; omega
  have h2' : 5 * x.2 * x.2 < ((r : Int) + 1) * (r + 1) := by
    have e : ((r : Int) + 1) * (r + 1) = (((r + 1) * (r + 1) : Nat) : Int) := by rw [Int.natCast_mul]; rfl
    rw [e]; omega
  have aw := fun z => awake_c z
  have c1 := fun z => Floor_yes x hx r h1' h2' z
  have c2 := fun z => Norm_yes x hx z
  have c3 := fun z => Mate_yes x hx z
  rw [nofV, nofE, hm] at c3
  simp only [Bool.false_eq_true, if_true, if_false] at c3
  have c4 := fun z => refNumber_v x z
  rw [hx] at c4
  have c5 := fun z => refFloor_c x sx r h1' h2' z
  have c6 := fun z => refNorm_v x (sm2_mono sx (by decide)) z
  have c7 := fun z => refMate_v x (sm2_mono sx (by decide)) z
  have c8 := fun z => refNumber_v (mateG x) z
  rw [hm] at c8
  have x0 := At.new w 23 (gv x)
  have k0 : Keeps w (w.alloc (.cells (gv x) 23)) := Keeps.alloc (Below.refl _ _) _
  clear hx hm sx hbb hnn h1 h2 h1' h2'
  generalize flr x.1 x.2 r = f at *
  generalize normG x = n at *
  generalize mateG x = m at *
  change Calls Tryd.prog 4 #[.agg #[.int .i64 x.1, .int .i64 x.2]] w _
  go_enter Tryd.func4, Tryd.ntmps4
  go_upto_region 4 with (first
    | (refine load_row_w rfl 23 _ rfl _ rfl 23 _ _ _ (by assumption) Tryd.underlying23 rfl (sizeV _) ?_)
    | (refine wpList_store_row rfl 23 _ _ rfl _ (gv (0, 0)) rfl rfl 23 (gv (0, 0)) (by assumption) (sizeV _) rfl (oneV _) ?_)
    | (go_at_call 14; refine (c1 _).mono ?_; rintro e w1 ⟨rfl, b1⟩; have x1 := x0.later b1; have k1 := Keeps.next k0 b1; clear x0)
    | (go_at_call 15; refine (c2 _).mono ?_; rintro e w2 ⟨rfl, b2⟩; have x2 := x1.later b2; have k2 := Keeps.next k1 b2; clear x1)
    | (go_at_call 16
       refine (c3 _).mono ?_
       rintro e w3 ⟨rfl, b3⟩
       have r3 := At.new w3 23 (gv (0, 0))
       have m3 := r3.row (gv (0, 0))
       have d3 := below_row (Keeps.alloc b3 (.cells (gv (0, 0)) 23)) b3.size (gv (0, 0))
       have x3 := x2.later d3
       have k3 := Keeps.next k2 d3
       clear x2))
  go_wp2_with (first
    | (refine load_row_w rfl 23 _ rfl _ rfl 23 #[.int .i64 0, .int .i64 0] _ _ m8 Tryd.underlying23 rfl (sizeG _ _) ?_)
    | (refine load_row_w rfl 23 _ rfl _ rfl 23 _ _ _ (by assumption) Tryd.underlying23 rfl (sizeV _) ?_)
    | (go_at_call 10; (with_reducible refine (c4 _).mono ?_); rintro e w4 ⟨rfl, b4⟩; have x4 := x3.later b4; have m4 := m3.later b4; have k4 := Keeps.next k3 b4; clear x3)
    | (go_at_call 17; refine (c5 _).mono ?_; rintro e w5 ⟨rfl, b5⟩; have x5 := x4.later b5; have m5 := m4.later b5; have k5 := Keeps.next k4 b5; clear x4)
    | (go_at_call 18; refine (c6 _).mono ?_; rintro e w6 ⟨rfl, b6⟩; have x6 := x5.later b6; have m6 := m5.later b6; have k6 := Keeps.next k5 b6; clear x5)
    | (go_at_call 19; refine (c7 _).mono ?_; rintro e w7 ⟨rfl, b7⟩; have x7 := x6.later b7; have m7 := m6.later b7; have k7 := Keeps.next k6 b7; clear x6)
    | (go_at_call 10; refine (c8 _).mono ?_; rintro e w8 ⟨rfl, b8⟩; have x8 := x7.later b8; have m8 := m7.later b8; have k8 := Keeps.next k7 b8; clear x7)
    | (go_at_call 11; refine (aw _).mono ?_; rintro e w9 ⟨rfl, b9⟩))
  go_ret
  exact ⟨rfl, Keeps.next k8 b9⟩
set_option maxHeartbeats 2000000 in
set_option maxRecDepth 100000 in
theorem floors_yes (x : Int × Int) (hx : numB x.1 x.2 = true) (hm : numB (mateG x).1 (mateG x).2 = true) (w : World) :
    Calls Tryd.prog 4 #[.agg (gv x)] w fun e w' => e = .returned (.bool true) ∧ Keeps w w' := by
  have sx := sm2_of hx
  have hbb := sm_mul _ _ _ _ sx.2 sx.2 (by decide) (by decide)
  have hnn : 0 ≤ 5 * x.2 * x.2 := by
    rw [Int.mul_assoc]
    rcases Int.lt_trichotomy x.2 0 with h | h | h
    · have := Int.mul_pos_of_neg_of_neg h h; omega
    · rw [h]; decide
    · have := Int.mul_pos h h; omega
  obtain ⟨r, h1, h2⟩ := root_ex (5 * x.2 * x.2).toNat
  have h1' : (r : Int) * r ≤ 5 * x.2 * x.2 := by rw [← Int.natCast_mul]; omega
  have h2' : 5 * x.2 * x.2 < ((r : Int) + 1) * (r + 1) := by
    have e : ((r : Int) + 1) * (r + 1) = (((r + 1) * (r + 1) : Nat) : Int) := by rw [Int.natCast_mul]; rfl
    rw [e]; omega
  have aw := fun z => awake_c z
  have c1 := fun z => Floor_yes x hx r h1' h2' z
  have c2 := fun z => Norm_yes x hx z
  have c3 := fun z => Mate_yes x hx z
  rw [nofV, nofE, hm] at c3
  simp only [if_true, if_false] at c3
  have c4 := fun z => refNumber_v x z
  rw [hx] at c4
  have c5 := fun z => refFloor_c x sx r h1' h2' z
  have c6 := fun z => refNorm_v x (sm2_mono sx (by decide)) z
  have c7 := fun z => refMate_v x (sm2_mono sx (by decide)) z
  have c8 := fun z => refNumber_v (mateG x) z
  rw [hm] at c8
  have x0 := At.new w 23 (gv x)
  have k0 : Keeps w (w.alloc (.cells (gv x) 23)) := Keeps.alloc (Below.refl _ _) _
  clear hx hm sx hbb hnn h1 h2 h1' h2'
  generalize flr x.1 x.2 r = f at *
  generalize normG x = n at *
  generalize mateG x = m at *
  change Calls Tryd.prog 4 #[.agg #[.int .i64 x.1, .int .i64 x.2]] w _
  go_enter Tryd.func4, Tryd.ntmps4
  go_upto_region 4 with (first
    | (refine load_row_w rfl 23 _ rfl _ rfl 23 _ _ _ (by assumption) Tryd.underlying23 rfl (sizeV _) ?_)
    | (refine wpList_store_row rfl 23 _ _ rfl _ (gv m) rfl rfl 23 (gv (0, 0)) (by assumption) (sizeV _) rfl (oneV _) ?_)
    | (go_at_call 14; refine (c1 _).mono ?_; rintro e w1 ⟨rfl, b1⟩; have x1 := x0.later b1; have k1 := Keeps.next k0 b1; clear x0)
    | (go_at_call 15; refine (c2 _).mono ?_; rintro e w2 ⟨rfl, b2⟩; have x2 := x1.later b2; have k2 := Keeps.next k1 b2; clear x1)
    | (go_at_call 16
       refine (c3 _).mono ?_
       rintro e w3 ⟨rfl, b3⟩
       have r3 := At.new w3 23 (gv (0, 0))
       have m3 := r3.row (gv m)
       have d3 := below_row (Keeps.alloc b3 (.cells (gv (0, 0)) 23)) b3.size (gv m)
       have x3 := x2.later d3
       have k3 := Keeps.next k2 d3
       clear x2))
  go_upto_region 10 with (first
    | (refine load_row_w rfl 23 _ rfl _ rfl 23 _ _ _ (by assumption) Tryd.underlying23 rfl (sizeV _) ?_)
    | (go_at_call 10; (with_reducible refine (c4 _).mono ?_); rintro e w4 ⟨rfl, b4⟩; have x4 := x3.later b4; have m4 := m3.later b4; have k4 := Keeps.next k3 b4; clear x3)
    | (go_at_call 17; refine (c5 _).mono ?_; rintro e w5 ⟨rfl, b5⟩; have x5 := x4.later b5; have m5 := m4.later b5; have k5 := Keeps.next k4 b5; clear x4)
    | (go_at_call 18; refine (c6 _).mono ?_; rintro e w6 ⟨rfl, b6⟩; have x6 := x5.later b6; have m6 := m5.later b6; have k6 := Keeps.next k5 b6; clear x5)
    | (go_at_call 19; refine (c7 _).mono ?_; rintro e w7 ⟨rfl, b7⟩; have x7 := x6.later b7; have m7 := m6.later b7; have k7 := Keeps.next k6 b7; clear x6)
    | (go_at_call 10; refine (c8 _).mono ?_; rintro e w8 ⟨rfl, b8⟩; have x8 := x7.later b8; have m8 := m7.later b8; have k8 := Keeps.next k7 b8; clear x7))
  obtain ⟨p1, p2⟩ := cells_gv x8
  obtain ⟨p3, p4⟩ := cells_gv m8
  have Sof : ∀ W, Keeps w8 W → (W.cell? ⟨w3.heap.size, 0, none⟩ = some (.int .i64 m.1) ∧ W.cell? ⟨w3.heap.size, 1, none⟩ = some (.int .i64 m.2) ∧ W.cell? ⟨w.heap.size, 0, none⟩ = some (.int .i64 x.1) ∧ W.cell? ⟨w.heap.size, 1, none⟩ = some (.int .i64 x.2)) :=
    fun W h => ⟨cell_keep (w := w8) p3 h, cell_keep (w := w8) p4 h, cell_keep (w := w8) p1 h, cell_keep (w := w8) p2 h⟩
  have SOf := Lib.hid Sof
  have kk : Keeps w8 w8 := Below.refl _ _
  clear Sof p1 p2 p3 p4 x8 m8 c1 c2 c3 c4 c5 c6 c8
  go_cut [2] (fun v2 wr => v2 = .bool true ∧ Keeps w8 wr)
  case first =>
    go_region_held3 (fun w' => w'.cell? ⟨w3.heap.size, 0, none⟩ = some (.int .i64 m.1) ∧ w'.cell? ⟨w3.heap.size, 1, none⟩ = some (.int .i64 m.2) ∧ w'.cell? ⟨w.heap.size, 0, none⟩ = some (.int .i64 x.1) ∧ w'.cell? ⟨w.heap.size, 1, none⟩ = some (.int .i64 x.2))
      (first | exact SOf.out _ (Keeps.dr kk) | exact SOf.out _ kk | fail)
      (first
        | (go_at_call 19; refine (c7 _).mono ?_; rintro e w7 ⟨rfl, b7⟩; first | (have kk := Keeps.next (Keeps.dr kk) b7) | (have kk := Keeps.next kk b7))
        | (go_at_call 11; refine (aw _).mono ?_; rintro e w9 ⟨rfl, b9⟩; first | (have kk := Keeps.next (Keeps.dr kk) b9) | (have kk := Keeps.next kk b9)))
    all_goals
      go_wp2_with fail
      go_meet
      exact ⟨rfl, kk⟩
  case rest =>
    obtain ⟨rfl, hk⟩ := hcut
    go_wp2_with fail
    go_ret
    exact ⟨rfl, Keeps.next k8 hk⟩

theorem law_floors (a b : Int) (w : World) : Calls Tryd.prog 4 #[.agg #[.int .i64 a, .int .i64 b]] w fun e w' => e = .returned (.bool true) ∧ Keeps w w' := by
  have h : ∀ x : Int × Int, Calls Tryd.prog 4 #[.agg (gv x)] w fun e w' => e = .returned (.bool true) ∧ Keeps w w' := fun x => by
    cases hx : numB x.1 x.2
    · exact floors_no x hx w
    · cases hm : numB (mateG x).1 (mateG x).2
      · exact floors_full x hx hm w
      · exact floors_yes x hx hm w
  exact h (a, b)
end Go.Proofs.YtnpelnhfbbihkaaDoor
