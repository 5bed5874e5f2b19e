/- The walks of Norm, Mate and tame; the law GaugeNorms. -/
import Derived.Test.YtdhhnnbcmddcaaaDoorVc
namespace Go.Proofs.YtdhhnnbcmddcaaaDoor
open Go.RowKit
set_option linter.unusedVariables false
set_option linter.unusedSimpArgs false

def modN (x n : Int) : Int := (x % 18446744073709551616) % n
theorem mod_eq (x n : Int) (h1 : 1 ≤ n) (h2 : n ≤ 3000000) : wrap64 ((IntKind.u64.wrap x).tmod n) = modN x n := by
  have hw : IntKind.u64.wrap x = x % 18446744073709551616 := by simp [IntKind.wrap, IntKind.signed, IntKind.bits]
  have h0 : 0 ≤ x % 18446744073709551616 := Int.emod_nonneg _ (by omega)
  have h3 : (x % 18446744073709551616).tmod n = modN x n := by rw [modN, Int.tmod_eq_emod_of_nonneg h0]
  have h4 : 0 ≤ modN x n := Int.emod_nonneg _ (by omega)
  have h5 : modN x n < n := Int.emod_lt_of_pos _ (by omega)
  rw [hw, h3]
  simp only [wrap64]
  omega
theorem modN_in (x n : Int) (h1 : 1 ≤ n) : 0 ≤ modN x n ∧ modN x n < n := ⟨Int.emod_nonneg _ (by omega), Int.emod_lt_of_pos _ (by omega)⟩
theorem mod_c (x n : Int) (h1 : 1 ≤ n) (h2 : n ≤ 3000000) (w : World) :
    Calls Tryd.prog 14 #[.int .i64 x, .int .i64 n] w fun e w' => e = .returned (.int .i64 (modN x n)) ∧ w = w' := by
  go_enter Tryd.func14, Tryd.ntmps14
  go_wp2_with fail
  go_ret
  exact ⟨ret_int (mod_eq x n h1 h2), rfl⟩
def tameG (m : Int) (x : Int × Int) : Int × Int := (modN x.1 (2 * m + 1) - m, modN x.2 (2 * m + 1) - m)
theorem tame_sm (m : Int) (h : 0 ≤ m) (x : Int × Int) : sm2 m (tameG m x) := by
  have h1 := modN_in x.1 (2 * m + 1) (by omega)
  have h2 := modN_in x.2 (2 * m + 1) (by omega)
  unfold sm2 sm tameG
  simp only
  omega
set_option maxHeartbeats 2000000 in
set_option maxRecDepth 100000 in
theorem tame_c (x : Int × Int) (m : Int) (h0 : 1 ≤ m) (h1 : m ≤ 1000000) (w : World) :
    Calls Tryd.prog 35 #[.agg (gv x), .int .i64 m] w fun e w' => e = .returned (.agg (gv (tameG m x))) ∧ Keeps w w' := by
  have m1 := fun z => mod_c x.1 (2 * m + 1) (by omega) (by omega) z
  have m2 := fun z => mod_c x.2 (2 * m + 1) (by omega) (by omega) z
  have i1 := modN_in x.1 (2 * m + 1) (by omega)
  have i2 := modN_in x.2 (2 * m + 1) (by omega)
  unfold tameG
  obtain ⟨u, hu⟩ : ∃ u, modN x.1 (2 * m + 1) = u := ⟨_, rfl⟩
  obtain ⟨v, hv⟩ : ∃ v, modN x.2 (2 * m + 1) = v := ⟨_, rfl⟩
  rw [hu] at i1 m1 ⊢
  rw [hv] at i2 m2 ⊢
  have q1 : IntKind.i64.wrap (2 * m) = 2 * m := IntWalk.i64_in _ (by omega)
  have q2 : IntKind.i64.wrap (2 * m + 1) = 2 * m + 1 := IntWalk.i64_in _ (by omega)
  have q3 : IntKind.i64.wrap (u - m) = u - m := IntWalk.i64_in _ (by omega)
  have q4 : IntKind.i64.wrap (v - m) = v - m := IntWalk.i64_in _ (by omega)
  clear i1 i2 hu hv h0 h1
  obtain ⟨X, hX⟩ : ∃ X, ((w.alloc (.cells #[.int .i64 x.1, .int .i64 x.2] 23)).alloc (.cells #[.int .i64 0, .int .i64 0] 23)) = X := ⟨_, rfl⟩
  have a0 : At X (w.heap.size + 1) 23 (gv (0, 0)) := by rw [← hX]; exact At.new2 w (.cells (gv x) 23) 23 (gv (0, 0))
  have k0 : Keeps w X := by rw [← hX]; exact Keeps.alloc (Keeps.alloc (Below.refl _ _) _) _
  have c0 : At X w.heap.size 23 (gv x) := by rw [← hX]; exact (At.new w _ _).alloc _
  have HX := Lib.hid hX
  clear hX
  obtain ⟨p1, p2⟩ := cells_gv c0
  change Calls Tryd.prog 35 #[.agg #[.int .i64 x.1, .int .i64 x.2], .int .i64 m] w _
  go_enter Tryd.func35, Tryd.ntmps35
  go_upto_region 1 with (fail)
  rw [HX.out]
  go_cut [4] (fun v4 wr => v4 = .pointer (some ⟨w.heap.size + 1, 0, none⟩) ∧ At wr (w.heap.size + 1) 23 (gv (u - m, v - m)) ∧ Keeps w wr)
  case first =>
    go_still_tail 17, (by kernel_rfl)
    still_call ((m1 X.drew).mono fun _ _ ⟨h, k⟩ => ⟨h, k.symm⟩)
    repeat still_step
    still_call ((m2 X.drew).mono fun _ _ ⟨h, k⟩ => ⟨h, k.symm⟩)
    repeat still_step
    refine wpStill_nil ?_
    change wpList _ _ _ _ _ X.drew
    have a1 := a0.drew
    have k1 := Keeps.dr k0
    generalize X.drew = X1 at *
    go_wp2_with (refine wpList_store_row rfl 23 _ _ rfl (w.heap.size + 1) (gv (u - m, v - m)) rfl rfl 23 (gv (0, 0)) a1 (sizeV _) rfl (oneV _) ?_)
    go_meet
    exact ⟨rfl, a1.row _, below_row k1 (by omega) _⟩
  case rest =>
    obtain ⟨rfl, h3, hk⟩ := hcut
    go_wp2_with fail
    exact bodyPost_ret (results_cell_row Tryd.results35 _ _ (w.heap.size + 1) _ _ _ _ rfl h3 Tryd.underlying23 rfl (sizeV _)) rfl ⟨rfl, hk⟩

theorem norm_times (x y : Int × Int) : normG (timesG x y) = normG x * normG y := by unfold normG timesG; simp only; grind
theorem times_mate (x : Int × Int) : timesG x (mateG x) = (normG x, 0) := by
  unfold timesG mateG normG
  apply Prod.ext <;> simp only <;> grind
theorem mate_times (x y : Int × Int) : timesG (mateG x) (mateG y) = mateG (timesG x y) := by
  unfold timesG mateG
  apply Prod.ext <;> simp only <;> grind
theorem mate_mate (x : Int × Int) : mateG (mateG x) = x := by
  unfold mateG
  apply Prod.ext <;> simp only <;> omega
theorem num_of {x : Int × Int} (h : sm2 1000000 x) : numB x.1 x.2 = true := by
  rw [numB_iff]; unfold sm2 sm at h; omega
theorem row_four {w : World} {g : Nat} {t : TypeId} {x : Int × Int} (a : At w g t (gv x)) : w.cell? ⟨g, 0, none⟩ = some (.int .i64 x.1) ∧ w.cell? ⟨g, 1, none⟩ = some (.int .i64 x.2) ∧ w.frozen? ⟨g, 0, none⟩ = false ∧ w.frozen? ⟨g, 1, none⟩ = false :=
  ⟨(cells_gv a).1, (cells_gv a).2, a.frozen 0, a.frozen 1⟩
set_option maxHeartbeats 4000000 in
theorem norms_rest (X Y : Int × Int) (hX : sm2 300 X) (hY : sm2 300 Y) : sm2 270000 (timesG X Y) ∧ sm2 600 (mateG X) ∧ sm2 600 (mateG Y) ∧ sm 270000 (normG X) ∧ sm 270000 (normG Y) := by
  have h1 := sm2_times hX hY (by decide) (by decide)
  refine ⟨by simpa using h1, ?_, ?_, ?_, ?_⟩
  · unfold sm2 sm mateG at *; simp only; omega
  · unfold sm2 sm mateG at *; simp only; omega
  · have m1 := sm_mul _ _ _ _ hX.1 hX.1 (by decide) (by decide)
    have m2 := sm_mul _ _ _ _ hX.1 hX.2 (by decide) (by decide)
    have m3 := sm_mul _ _ _ _ hX.2 hX.2 (by decide) (by decide)
    unfold normG
    unfold sm at *; omega
  · have m1 := sm_mul _ _ _ _ hY.1 hY.1 (by decide) (by decide)
    have m2 := sm_mul _ _ _ _ hY.1 hY.2 (by decide) (by decide)
    have m3 := sm_mul _ _ _ _ hY.2 hY.2 (by decide) (by decide)
    unfold normG
    unfold sm at *; omega
end Go.Proofs.YtdhhnnbcmddcaaaDoor
