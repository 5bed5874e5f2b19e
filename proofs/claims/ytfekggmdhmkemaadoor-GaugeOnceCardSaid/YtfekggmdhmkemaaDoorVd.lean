/- The walks of Norm, Mate and tame; the law GaugeNorms. -/
import Derived.Test.YtfekggmdhmkemaaDoorVc
namespace Go.Proofs.YtfekggmdhmkemaaDoor
open Go.RowKit
set_option linter.unusedVariables false
set_option linter.unusedSimpArgs false

def modN (x n : Int) : Int := (x % 18446744073709551616) % n
theorem mod_eq (x n : Int) (h1 : 1 ≤ n) (h2 : n ≤ 3000000) : wrap64 ((IntKind.u64.wrap x).tmod n) = modN x n := by
  have hw : IntKind.u64.wrap x = x % 18446744073709551616 := by simp [IntKind.wrap, IntKind.signed, IntKind.bits]
  have h0 : 0 ≤ x % 18446744073709551616 := Int.emod_nonneg _ (by omega)
  have h3 : (x % 18446744073709551616).tmod n = modN x n := by rw [modN, Int.tmod_eq_emod_of_nonneg h0]
  have h4 : 0 ≤ modN x n := Int.emod_nonneg _ (by omega)
  have h5 : modN x n < n := Int.emod_lt_of_pos _ (by omega)
  rw [hw, h3]
  simp only [wrap64]
  omega
theorem modN_in (x n : Int) (h1 : 1 ≤ n) : 0 ≤ modN x n ∧ modN x n < n := ⟨Int.emod_nonneg _ (by omega), Int.emod_lt_of_pos _ (by omega)⟩
theorem mod_c (x n : Int) (h1 : 1 ≤ n) (h2 : n ≤ 3000000) (w : World) :
    Calls Tryd.prog 20 #[.int .i64 x, .int .i64 n] w fun e w' => e = .returned (.int .i64 (modN x n)) ∧ w = w' := by
  go_enter Tryd.func20, Tryd.ntmps20
  go_wp2_with fail
  go_ret
  exact ⟨ret_int (mod_eq x n h1 h2), rfl⟩
def tameG (m : Int) (x : Int × Int) : Int × Int := (modN x.1 (2 * m + 1) - m, modN x.2 (2 * m + 1) - m)
theorem tame_sm (m : Int) (h : 0 ≤ m) (x : Int × Int) : sm2 m (tameG m x) := by
  have h1 := modN_in x.1 (2 * m + 1) (by omega)
  have h2 := modN_in x.2 (2 * m + 1) (by omega)
  unfold sm2 sm tameG
  simp only
  omega
theorem norm_times (x y : Int × Int) : normG (timesG x y) = normG x * normG y := by unfold normG timesG; simp only; grind
theorem times_mate (x : Int × Int) : timesG x (mateG x) = (normG x, 0) := by
  unfold timesG mateG normG
  apply Prod.ext <;> simp only <;> grind
theorem mate_times (x y : Int × Int) : timesG (mateG x) (mateG y) = mateG (timesG x y) := by
  unfold timesG mateG
  apply Prod.ext <;> simp only <;> grind
theorem mate_mate (x : Int × Int) : mateG (mateG x) = x := by
  unfold mateG
  apply Prod.ext <;> simp only <;> omega
theorem num_of {x : Int × Int} (h : sm2 1000000 x) : numB x.1 x.2 = true := by
  rw [numB_iff]; unfold sm2 sm at h; omega
theorem row_four {w : World} {g : Nat} {t : TypeId} {x : Int × Int} (a : At w g t (gv x)) : w.cell? ⟨g, 0, none⟩ = some (.int .i64 x.1) ∧ w.cell? ⟨g, 1, none⟩ = some (.int .i64 x.2) ∧ w.frozen? ⟨g, 0, none⟩ = false ∧ w.frozen? ⟨g, 1, none⟩ = false :=
  ⟨(cells_gv a).1, (cells_gv a).2, a.frozen 0, a.frozen 1⟩
set_option maxHeartbeats 4000000 in
theorem norms_rest (X Y : Int × Int) (hX : sm2 300 X) (hY : sm2 300 Y) : sm2 270000 (timesG X Y) ∧ sm2 600 (mateG X) ∧ sm2 600 (mateG Y) ∧ sm 270000 (normG X) ∧ sm 270000 (normG Y) := by
  have h1 := sm2_times hX hY (by decide) (by decide)
  refine ⟨by simpa using h1, ?_, ?_, ?_, ?_⟩
  · unfold sm2 sm mateG at *; simp only; omega
  · unfold sm2 sm mateG at *; simp only; omega
  · have m1 := sm_mul _ _ _ _ hX.1 hX.1 (by decide) (by decide)
    have m2 := sm_mul _ _ _ _ hX.1 hX.2 (by decide) (by decide)
    have m3 := sm_mul _ _ _ _ hX.2 hX.2 (by decide) (by decide)
    unfold normG
    unfold sm at *; omega
  · have m1 := sm_mul _ _ _ _ hY.1 hY.1 (by decide) (by decide)
    have m2 := sm_mul _ _ _ _ hY.1 hY.2 (by decide) (by decide)
    have m3 := sm_mul _ _ _ _ hY.2 hY.2 (by decide) (by decide)
    unfold normG
    unfold sm at *; omega
end Go.Proofs.YtfekggmdhmkemaaDoor
