/- The walks of the program's Rung and of the reference's Gaps. -/
import Derived.Test.YtdhhnnbcmddcaaaDoorXb
namespace Go.Proofs.YtdhhnnbcmddcaaaDoor
open Go.RowKit
set_option linter.unusedVariables false
set_option linter.unusedSimpArgs false

set_option maxHeartbeats 1000000 in
theorem Rung_no (k : Int) (h : k < 0 ∨ 100000 < k) (w : World) :
    Calls Tryd.prog 15 #[.int .i64 k] w fun e w' => e = .returned (.tuple #[.agg (gv (0, 0)), .int .i64 2]) ∧ Keeps w w' := by
  have r0 : At (w.alloc (.cells (gv (0, 0)) 23)) w.heap.size 23 (gv (0, 0)) := At.new w _ _
  have k0 : Keeps w (w.alloc (.cells (gv (0, 0)) 23)) := Keeps.alloc (Below.refl _ _) _
  by_cases h1 : k < 0
  · have d1 : decide (k < 0) = true := by simpa using h1
    clear h h1
    go_enter Tryd.func15, Tryd.ntmps15
    go_wp2_with (refine wpList_store_row rfl 23 _ _ rfl _ (gv (0, 0)) rfl rfl 23 (gv (0, 0)) r0 (sizeV _) rfl (oneV _) ?_)
    exact bodyPost_ret (results_row_tmp Tryd.results15 _ _ w.heap.size _ _ _ rfl (r0.row _) Tryd.underlying23 rfl (sizeV _)) rfl ⟨rfl, below_row k0 (by omega) _⟩
  · have d1 : decide (k < 0) = false := by simpa using h1
    have d2 : decide (100000 < k) = true := by simp; omega
    clear h h1
    go_enter Tryd.func15, Tryd.ntmps15
    go_wp2_with (refine wpList_store_row rfl 23 _ _ rfl _ (gv (0, 0)) rfl rfl 23 (gv (0, 0)) r0 (sizeV _) rfl (oneV _) ?_)
    exact bodyPost_ret (results_row_tmp Tryd.results15 _ _ w.heap.size _ _ _ rfl (r0.row _) Tryd.underlying23 rfl (sizeV _)) rfl ⟨rfl, below_row k0 (by omega) _⟩
set_option maxHeartbeats 1000000 in
theorem Rung_yes (k : Int) (h0 : 0 ≤ k) (h1 : k ≤ 100000) (w : World) :
    Calls Tryd.prog 15 #[.int .i64 k] w fun e w' => e = .returned (.tuple #[.agg (gv (rungG k)), .int .i64 0]) ∧ Keeps w w' := by
  have r0 : At (w.alloc (.cells (gv (0, 0)) 23)) w.heap.size 23 (gv (0, 0)) := At.new w _ _
  have k0 : Keeps w (w.alloc (.cells (gv (0, 0)) 23)) := Keeps.alloc (Below.refl _ _) _
  have rc := fun z => rung_c k h0 (by omega) z
  have d1 : decide (k < 0) = false := by simpa using h0
  have d2 : decide (100000 < k) = false := by simpa using h1
  clear h0 h1
  generalize rungG k = v at *
  go_enter Tryd.func15, Tryd.ntmps15
  go_wp2_with (first
    | (go_at_call 32; refine (rc _).mono ?_; rintro e w1 ⟨rfl, b1⟩; have r1 := r0.later b1; have k1 := Keeps.next k0 b1)
    | (refine wpList_store_row rfl 23 _ _ rfl _ (gv v) rfl rfl 23 (gv (0, 0)) r1 (sizeV _) rfl (oneV _) ?_))
  exact bodyPost_ret (results_row_tmp Tryd.results15 _ _ w.heap.size _ _ _ rfl (r1.row _) Tryd.underlying23 rfl (sizeV _)) rfl ⟨rfl, below_row k1 (by omega) _⟩
theorem rungG_sm9 (k : Int) (h : 0 ≤ k) : sm2 100000000000 (rungG k) := by
  have := rgJ_in k h 40 (by omega)
  unfold sm2 rungG
  unfold sm at *
  omega
theorem str_snoc (l : List UInt8) (c : UInt8) : (⟨l.toArray⟩ : ByteArray) ++ (⟨#[c]⟩ : ByteArray) = ⟨(l ++ [c]).toArray⟩ := by
  apply ByteArray.ext
  rw [ByteArray.data_append]
  simp
end Go.Proofs.YtdhhnnbcmddcaaaDoor
