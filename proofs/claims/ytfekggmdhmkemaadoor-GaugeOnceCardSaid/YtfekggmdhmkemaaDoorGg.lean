/- The walks of nearest, numberOrFull, Divide. -/
import Derived.Test.YtfekggmdhmkemaaDoorGb
namespace Go.Proofs.YtfekggmdhmkemaaDoor
open Go.RowKit
set_option linter.unusedVariables false
set_option linter.unusedSimpArgs false

/-- The whole number nearest to n / d, for a positive d. -/
def nearP (n d : Int) : Int := if 0 < 2 * n - d ∧ (2 * n - d).tmod (2 * d) ≠ 0 then (2 * n - d).tdiv (2 * d) + 1 else (2 * n - d).tdiv (2 * d)
def nearG (n d : Int) : Int := if d < 0 then nearP (-n) (-d) else nearP n d
theorem tdiv_sm (x y : Int) (B : Int) (h : sm B x) : sm B (x.tdiv y) := by
  have : (x.tdiv y).natAbs ≤ x.natAbs := by rw [Int.natAbs_tdiv]; exact Nat.div_le_self _ _
  unfold sm at *; omega
set_option maxHeartbeats 1000000 in
theorem nearest_pos (n d : Int) (hn : sm 100000000000000 n) (hd : sm 100000000000000 d) (h0 : 0 < d) (w : World) :
    Calls Tryd.prog 49 #[.int .i64 n, .int .i64 d] w fun e w' => e = .returned (.int .i64 (nearP n d)) ∧ w = w' := by
  have hq := tdiv_sm (2 * n - d) (2 * d) 300000000000000 (by unfold sm at *; omega)
  have d0 : decide (d < 0) = false := by simp; omega
  have z0 : ((2 * d : Int) == 0) = false := by simp; omega
  have z1 : ((d : Int) == 0) = false := by simp; omega
  have z2 : d ≠ 0 := by omega
  unfold sm at hn hd hq
  have w1 : IntKind.i64.wrap (2 * n) = 2 * n := IntWalk.i64_in _ (by omega)
  have w2 : IntKind.i64.wrap (2 * n - d) = 2 * n - d := IntWalk.i64_in _ (by omega)
  have w3 : IntKind.i64.wrap (2 * d) = 2 * d := IntWalk.i64_in _ (by omega)
  have w4 : IntKind.i64.wrap ((2 * n - d).tdiv (2 * d)) = (2 * n - d).tdiv (2 * d) := IntWalk.i64_in _ (by omega)
  have w5 : IntKind.i64.wrap ((2 * n - d).tdiv (2 * d) + 1) = (2 * n - d).tdiv (2 * d) + 1 := IntWalk.i64_in _ (by omega)
  unfold nearP
  clear hq hn hd h0
  by_cases h1 : 0 < 2 * n - d
  · have e1 : decide (0 < 2 * n - d) = true := by simpa using h1
    have e3 : decide (d < 2 * n) = true := by simp; omega
    have te : (2 * n - d).tmod (2 * d) = (2 * n - d) % (2 * d) := Int.tmod_eq_emod_of_nonneg (by omega)
    by_cases h2 : (2 * n - d).tmod (2 * d) = 0
    · have e2 : ((2 * n - d).tmod (2 * d) == 0) = true := by simp [h2]
      rw [if_neg (fun h => h.2 h2)]
      clear h1 h2 te
      go_enter Tryd.func49, Tryd.ntmps49
      go_wp2_with fail
      go_ret
      exact ⟨rfl, rfl⟩
    · have e2 : ((2 * n - d).tmod (2 * d) == 0) = false := by simp [h2]
      rw [if_pos ⟨h1, h2⟩]
      clear h1 h2 te
      go_enter Tryd.func49, Tryd.ntmps49
      go_wp2_with fail
      go_ret
      exact ⟨rfl, rfl⟩
  · have e1 : decide (0 < 2 * n - d) = false := by simpa using h1
    have e3 : decide (d < 2 * n) = false := by simp; omega
    rw [if_neg (fun h => h1 h.1)]
    clear h1
    go_enter Tryd.func49, Tryd.ntmps49
    go_wp2_with fail
    go_ret
    exact ⟨rfl, rfl⟩
set_option maxHeartbeats 1000000 in
theorem nearest_neg (n d : Int) (hn : sm 100000000000000 n) (hd : sm 100000000000000 d) (h0 : 0 < d) (w : World) :
    Calls Tryd.prog 49 #[.int .i64 (-n), .int .i64 (-d)] w fun e w' => e = .returned (.int .i64 (nearP n d)) ∧ w = w' := by
  have hq := tdiv_sm (2 * n - d) (2 * d) 300000000000000 (by unfold sm at *; omega)
  have d0 : decide (-d < 0) = true := by simp; omega
  have d1 : decide (0 < d) = true := by simp; omega
  have z0 : ((2 * d : Int) == 0) = false := by simp; omega
  have z1 : ((d : Int) == 0) = false := by simp; omega
  have z2 : d ≠ 0 := by omega
  unfold sm at hn hd hq
  have v1 : IntKind.i64.wrap n = n := IntWalk.i64_in _ (by omega)
  have v2 : IntKind.i64.wrap d = d := IntWalk.i64_in _ (by omega)
  have w1 : IntKind.i64.wrap (2 * n) = 2 * n := IntWalk.i64_in _ (by omega)
  have w2 : IntKind.i64.wrap (2 * n - d) = 2 * n - d := IntWalk.i64_in _ (by omega)
  have w3 : IntKind.i64.wrap (2 * d) = 2 * d := IntWalk.i64_in _ (by omega)
  have w4 : IntKind.i64.wrap ((2 * n - d).tdiv (2 * d)) = (2 * n - d).tdiv (2 * d) := IntWalk.i64_in _ (by omega)
  have w5 : IntKind.i64.wrap ((2 * n - d).tdiv (2 * d) + 1) = (2 * n - d).tdiv (2 * d) + 1 := IntWalk.i64_in _ (by omega)
  unfold nearP
  clear hq hn hd h0
  by_cases h1 : 0 < 2 * n - d
  · have e1 : decide (0 < 2 * n - d) = true := by simpa using h1
    have e3 : decide (d < 2 * n) = true := by simp; omega
    have te : (2 * n - d).tmod (2 * d) = (2 * n - d) % (2 * d) := Int.tmod_eq_emod_of_nonneg (by omega)
    by_cases h2 : (2 * n - d).tmod (2 * d) = 0
    · have e2 : ((2 * n - d).tmod (2 * d) == 0) = true := by simp [h2]
      rw [if_neg (fun h => h.2 h2)]
      clear h1 h2 te
      go_enter Tryd.func49, Tryd.ntmps49
      go_wp2_with fail
      go_ret
      exact ⟨rfl, rfl⟩
    · have e2 : ((2 * n - d).tmod (2 * d) == 0) = false := by simp [h2]
      rw [if_pos ⟨h1, h2⟩]
      clear h1 h2 te
      go_enter Tryd.func49, Tryd.ntmps49
      go_wp2_with fail
      go_ret
      exact ⟨rfl, rfl⟩
  · have e1 : decide (0 < 2 * n - d) = false := by simpa using h1
    have e3 : decide (d < 2 * n) = false := by simp; omega
    rw [if_neg (fun h => h1 h.1)]
    clear h1
    go_enter Tryd.func49, Tryd.ntmps49
    go_wp2_with fail
    go_ret
    exact ⟨rfl, rfl⟩
theorem nearest_c (n d : Int) (hn : sm 100000000000000 n) (hd : sm 100000000000000 d) (h0 : d ≠ 0) (w : World) :
    Calls Tryd.prog 49 #[.int .i64 n, .int .i64 d] w fun e w' => e = .returned (.int .i64 (nearG n d)) ∧ w = w' := by
  unfold nearG
  split
  · have := nearest_neg (-n) (-d) (by unfold sm at *; omega) (by unfold sm at *; omega) (by omega) w
    rwa [Int.neg_neg, Int.neg_neg] at this
  · exact nearest_pos n d hn hd (by omega) w
/-- A number, or the code 5. -/
def nofV (x : Int × Int) : Int × Int := if numB x.1 x.2 then x else (0, 0)
def nofE (x : Int × Int) : Int := if numB x.1 x.2 then 0 else 5
set_option maxHeartbeats 1000000 in
theorem numberOrFull_c (x : Int × Int) (w : World) :
    Calls Tryd.prog 22 #[.agg (gv x)] w fun e w' => e = .returned (.tuple #[.agg (gv (nofV x)), .int .i64 (nofE x)]) ∧ Keeps w w' := by
  have hn := fun y => isNumber_c x.1 x.2 y
  have hX := At.new2 w (.cells (gv x) 24) 24 (gv (0, 0))
  have hA := (At.new w 24 (gv x)).alloc (.cells (gv (0, 0)) 24)
  have hk : Keeps w ((w.alloc (.cells (gv x) 24)).alloc (.cells (gv (0, 0)) 24)) := Keeps.alloc (Keeps.alloc (Below.refl _ _) _) _
  have hX1 := hX.alloc (.cells #[.int .i64 x.1, .int .i64 x.2] 24)
  have hA1 := hA.alloc (.cells #[.int .i64 x.1, .int .i64 x.2] 24)
  have hk1 := hk.alloc (.cells #[.int .i64 x.1, .int .i64 x.2] 24)
  unfold nofV nofE
  cases hb : numB x.1 x.2
  · rw [hb] at hn
    clear hb
    simp only [if_false, Bool.false_eq_true]
    go_enter Tryd.func22, Tryd.ntmps22
    go_wp2_with (first
      | (refine wpList_load_row rfl 24 _ rfl w.heap.size rfl 24 _ _ _ hA Tryd.underlying24 rfl (sizeV _) ?_)
      | (go_at_call 38; refine (hn _).mono ?_; rintro e w1 ⟨rfl, rfl⟩)
      | (refine wpList_store_row rfl 24 _ _ rfl (w.heap.size + 1) (gv (0, 0)) rfl rfl 24 _ hX1 (sizeV _) rfl (oneV _) ?_))
    exact bodyPost_ret (results_row_tmp Tryd.results22 _ _ (w.heap.size + 1) _ _ _ rfl (hX1.row _) Tryd.underlying24 rfl (sizeV _)) rfl ⟨rfl, below_row hk1 (by omega) _⟩
  · rw [hb] at hn
    clear hb
    simp only [if_true]
    go_enter Tryd.func22, Tryd.ntmps22
    go_wp2_with (first
      | (refine wpList_load_row rfl 24 _ rfl w.heap.size rfl 24 _ _ _ hA Tryd.underlying24 rfl (sizeV _) ?_)
      | (refine wpList_load_row rfl 24 _ rfl w.heap.size rfl 24 _ _ _ hA1 Tryd.underlying24 rfl (sizeV _) ?_)
      | (go_at_call 38; refine (hn _).mono ?_; rintro e w1 ⟨rfl, rfl⟩)
      | (refine wpList_store_row rfl 24 _ _ rfl (w.heap.size + 1) (gv x) rfl rfl 24 _ hX1 (sizeV _) rfl (oneV _) ?_))
    exact bodyPost_ret (results_row_tmp Tryd.results22 _ _ (w.heap.size + 1) _ _ _ rfl (hX1.row _) Tryd.underlying24 rfl (sizeV _)) rfl ⟨rfl, below_row hk1 (by omega) _⟩
end Go.Proofs.YtfekggmdhmkemaaDoor
