/- The walks of Floor and of the reference's floor, norm and mate; the law GaugeFloors. -/
import Derived.Test.YtahkoihlpkaohaaDoorVf
namespace Go.Proofs.YtahkoihlpkaohaaDoor
open Go.RowKit
set_option linter.unusedVariables false
set_option linter.unusedSimpArgs false

set_option maxHeartbeats 1000000 in
theorem refNorm_c (a b : Int) (ha : sm 1000000000 a) (hb : sm 1000000000 b) (w : World) :
    Calls Tryd.prog 33 #[.agg #[.int .i64 a, .int .i64 b]] w fun e w' => e = .returned (.int .i64 (a * a + a * b - b * b)) ∧ w.alloc (.cells #[.int .i64 a, .int .i64 b] 23) = w' := by
  have m1 := sm_mul 1000000000 1000000000 a a ha ha (by decide) (by decide)
  have m2 := sm_mul 1000000000 1000000000 a b ha hb (by decide) (by decide)
  have m3 := sm_mul 1000000000 1000000000 b b hb hb (by decide) (by decide)
  unfold sm at m1 m2 m3
  have q1 : IntKind.i64.wrap (a * a) = a * a := IntWalk.i64_in _ (by omega)
  have q2 : IntKind.i64.wrap (a * b) = a * b := IntWalk.i64_in _ (by omega)
  have q3 : IntKind.i64.wrap (b * b) = b * b := IntWalk.i64_in _ (by omega)
  have q4 : IntKind.i64.wrap (a * a + a * b) = a * a + a * b := IntWalk.i64_in _ (by omega)
  have q5 : IntKind.i64.wrap (a * a + a * b - b * b) = a * a + a * b - b * b := IntWalk.i64_in _ (by omega)
  clear m1 m2 m3
  go_enter Tryd.func33, Tryd.ntmps33
  go_wp2_with fail
  go_ret
  exact ⟨rfl, rfl⟩
set_option maxHeartbeats 1000000 in
theorem refMate_c (a b : Int) (ha : sm 1000000000000 a) (hb : sm 1000000000000 b) (w : World) :
    Calls Tryd.prog 32 #[.agg #[.int .i64 a, .int .i64 b]] w fun e w' => e = .returned (.agg #[.int .i64 (a + b), .int .i64 (-b)]) ∧ Keeps w w' := by
  have ha2 := ha
  unfold sm at ha2
  obtain ⟨a1, a2⟩ := ha2
  have hb2 := hb
  unfold sm at hb2
  obtain ⟨b1, b2⟩ := hb2
  have hX := At.new2 w (.cells #[.int .i64 a, .int .i64 b] 23) 23 #[.int .i64 0, .int .i64 0]
  have hk : Keeps w ((w.alloc (.cells #[.int .i64 a, .int .i64 b] 23)).alloc (.cells #[.int .i64 0, .int .i64 0] 23)) := Keeps.alloc (Keeps.alloc (Below.refl _ _) _) _
  go_enter Tryd.func32, Tryd.ntmps32
  go_wp2_with (refine wpList_store_row rfl 23 _ _ rfl (w.heap.size + 1) #[.int .i64 (a + b), .int .i64 (-b)] rfl rfl 23 #[.int .i64 0, .int .i64 0] hX (sizeG _ _) rfl (oneG _ _) ?_)
  have h3 := hX.row #[.int .i64 (a + b), .int .i64 (-b)]
  refine bodyPost_ret (results_cell_row Tryd.results32 _ _ (w.heap.size + 1) _ _ _ _ rfl h3 Tryd.underlying23 rfl (sizeG _ _)) rfl ⟨rfl, below_row hk (by omega) _⟩

theorem root_small (r : Nat) (b : Int) (hb : sm 1000000 b) (h1 : (r : Int) * r ≤ 5 * b * b) : r ≤ 2236068 := by
  have hbb := sm_mul _ _ _ _ hb hb (by decide) (by decide)
  unfold sm at hbb
  rw [Int.mul_assoc] at h1
  rcases Nat.lt_or_ge 2236068 r with h | h
  · have h2 := Nat.mul_le_mul h h
    have h3 : ((r * r : Nat) : Int) = (r : Int) * r := Int.natCast_mul _ _
    omega
  · exact h
theorem flr_in (a b : Int) (r : Nat) (ha : sm 1000000 a) (hb : sm 1000000 b) (hr : r ≤ 2236068) : -2700000 ≤ flr a b r ∧ flr a b r ≤ 2700000 := by
  unfold flr sm at *
  split <;> omega
set_option maxHeartbeats 1000000 in
theorem Floor_no (x : Int × Int) (hx : numB x.1 x.2 = false) (w : World) :
    Calls Tryd.prog 19 #[.agg (gv x)] w fun e w' => e = .returned (.tuple #[.int .i64 0, .int .i64 2]) ∧ Keeps w w' := by
  have i1 := fun z => isNumber_v x z
  rw [hx] at i1
  have a0 := At.new w 23 (gv x)
  have k0 : Keeps w (w.alloc (.cells (gv x) 23)) := Keeps.alloc (Below.refl _ _) _
  clear hx
  change Calls Tryd.prog 19 #[.agg #[.int .i64 x.1, .int .i64 x.2]] w _
  go_enter Tryd.func19, Tryd.ntmps19
  go_wp2_with (first
    | (refine load_row_w rfl 23 _ rfl _ rfl 23 _ _ _ (by assumption) Tryd.underlying23 rfl (sizeV _) ?_)
    | (go_at_call 23; refine (i1 _).mono ?_; rintro e w1 ⟨rfl, b1⟩; have a1 := a0.later b1))
  go_ret2
  exact ⟨rfl, Keeps.next k0 b1⟩
theorem search_floor (x : Int × Int) (r : Nat) (b : Nat) (hx : sm2 1000000 x) (h1 : (r : Int) * r ≤ 5 * x.2 * x.2) (h2 : 5 * x.2 * x.2 < ((r : Int) + 1) * (r + 1)) (w : World) (hb : At w b 23 (gv x)) :
    Calls Tryd.prog 36 #[.int .i64 6000000, .func (.func 37) #[] #[.pointer (some ⟨b, 0, none⟩)]] w fun e w' => e = .returned (.int .i64 (flr x.1 x.2 r + 3000001)) ∧ Keeps w w' := by
  have hr := root_small r x.2 hx.2 h1
  have hf := flr_in x.1 x.2 r hx.1 hx.2 hr
  have h := search_c 37 #[.pointer (some ⟨b, 0, none⟩)] 6000000 (flr x.1 x.2 r + 3000001).toNat (Nat.le_refl _) (by omega) w (enters_of Tryd.func37 (by kernel_rfl) rfl)
    (fun i W hi hk => by
      have hc := closure_c x b i W hx hi (hb.later hk)
      have e : decide (sgn (x.1 - ((i : Int) - 3000000)) x.2 < 0) = decide ((flr x.1 x.2 r + 3000001).toNat ≤ i) := by
        rw [decide_eq_decide, flr_sgn x.1 x.2 _ r h1 h2]
        omega
      rw [e] at hc
      exact hc)
  rw [Int.toNat_of_nonneg (by omega)] at h
  exact h
set_option maxHeartbeats 1000000 in
theorem Floor_yes (x : Int × Int) (hx : numB x.1 x.2 = true) (r : Nat) (h1 : (r : Int) * r ≤ 5 * x.2 * x.2) (h2 : 5 * x.2 * x.2 < ((r : Int) + 1) * (r + 1)) (w : World) :
    Calls Tryd.prog 19 #[.agg (gv x)] w fun e w' => e = .returned (.tuple #[.int .i64 (flr x.1 x.2 r), .int .i64 0]) ∧ Keeps w w' := by
  have i1 := fun z => isNumber_v x z
  rw [hx] at i1
  have sc := fun z => search_floor x r w.heap.size (sm2_of hx) h1 h2 z
  have hr := root_small r x.2 (sm2_of hx).2 h1
  have hf := flr_in x.1 x.2 r (sm2_of hx).1 (sm2_of hx).2 hr
  have a0 := At.new w 23 (gv x)
  have k0 : Keeps w (w.alloc (.cells (gv x) 23)) := Keeps.alloc (Below.refl _ _) _
  clear hx h1 h2 hr
  generalize flr x.1 x.2 r = f at *
  have q1 : IntKind.i64.wrap (f + 3000001 - 3000000) = f + 3000001 - 3000000 := IntWalk.i64_in _ (by omega)
  have q2 : IntKind.i64.wrap (f + 3000001 - 3000000 - 1) = f + 3000001 - 3000000 - 1 := IntWalk.i64_in _ (by omega)
  have q3 : f + 3000001 - 3000000 - 1 = f := by omega
  have Q3 := Lib.hid q3
  clear q3
  change Calls Tryd.prog 19 #[.agg #[.int .i64 x.1, .int .i64 x.2]] w _
  go_enter Tryd.func19, Tryd.ntmps19
  go_wp2_with (first
    | (refine load_row_w rfl 23 _ rfl _ rfl 23 _ _ _ (by assumption) Tryd.underlying23 rfl (sizeV _) ?_)
    | (go_at_call 23; refine (i1 _).mono ?_; rintro e w1 ⟨rfl, b1⟩; have a1 := a0.later b1)
    | (go_at_call 36; refine (sc _ a1).mono ?_; rintro e w2 ⟨rfl, b2⟩))
  go_ret2
  refine ⟨?_, Keeps.next (Keeps.next k0 b1) b2⟩
  change Ending.returned (.tuple #[.int .i64 (f + 3000001 - 3000000 - 1), .int .i64 0]) = _
  rw [Q3.out]
theorem refNorm_v (x : Int × Int) (h : sm2 1000000000 x) (w : World) : Calls Tryd.prog 33 #[.agg #[.int .i64 x.1, .int .i64 x.2]] w fun e w' => e = .returned (.int .i64 (normG x)) ∧ Keeps w w' :=
  (refNorm_c x.1 x.2 h.1 h.2 w).mono fun e w' ⟨he, hw⟩ => ⟨he, by subst hw; exact Keeps.alloc (Below.refl _ _) _⟩
theorem refMate_v (x : Int × Int) (h : sm2 1000000000000 x) (w : World) : Calls Tryd.prog 32 #[.agg #[.int .i64 x.1, .int .i64 x.2]] w fun e w' => e = .returned (.agg #[.int .i64 (mateG x).1, .int .i64 (mateG x).2]) ∧ Keeps w w' := refMate_c x.1 x.2 h.1 h.2 w
end Go.Proofs.YtahkoihlpkaohaaDoor
