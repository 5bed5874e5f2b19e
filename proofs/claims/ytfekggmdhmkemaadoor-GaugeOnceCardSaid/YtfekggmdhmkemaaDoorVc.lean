/- The walks of Power and of the reference's power; the law GaugePowers. -/
import Derived.Test.YtfekggmdhmkemaaDoorVb
namespace Go.Proofs.YtfekggmdhmkemaaDoor
open Go.RowKit
set_option linter.unusedVariables false
set_option linter.unusedSimpArgs false

set_option maxHeartbeats 2000000 in
theorem refPower_yes (n : Nat) (hn : n ≤ 40) (w : World) :
    Calls Tryd.prog 29 #[.int .i64 n] w fun e w' => e = .returned (.agg (gv (pwN n))) ∧ Keeps w w' := by
  have hX0 := At.new2 w (.cells #[.int .i64 0, .int .i64 0] 24) 24 (gv (0, 0))
  have hR0 := (At.new w 24 (gv (0, 0))).alloc (.cells (gv (0, 0)) 24)
  have hk0 : Keeps w ((w.alloc (.cells (gv (0, 0)) 24)).alloc (.cells (gv (0, 0)) 24)) := Keeps.alloc (Keeps.alloc (Below.refl _ _) _) _
  go_enter Tryd.func29, Tryd.ntmps29
  go_wp2_with (refine wpList_store_row rfl 24 _ _ rfl (w.heap.size + 1) (gv (1, 0)) rfl rfl 24 (gv (0, 0)) hX0 (sizeV _) rfl (oneV _) ?_)
  have hX := hX0.row (gv (1, 0))
  have hR := hR0.rowfar (by omega) (gv (1, 0)) (g' := w.heap.size + 1)
  have hk := below_row hk0 (g := w.heap.size + 1) (by omega) (gv (1, 0))
  rw [← gv_zero] at hX hR hk
  generalize ((w.alloc (.cells #[.int .i64 0, .int .i64 0] 24)).alloc (.cells #[.int .i64 0, .int .i64 0] 24)).setRow (w.heap.size + 1) (gv (1, 0)) = X at *
  go_loopw [4] (fun i wr => ∃ j : Nat, j ≤ n ∧ i = .int .i64 j ∧ At wr (w.heap.size + 1) 24 (gv (pwN j)) ∧ At wr w.heap.size 24 (gv (0, 0)) ∧ Keeps w wr) (fun i _ => n - (intOf i).toNat)
  case atStart => exact ⟨0, by omega, rfl, hX, hR, hk⟩
  case round =>
    obtain ⟨j, hj, rfl, hA, hB, hK⟩ := hrel
    clear hX hR hk hX0 hR0 hk0 X
    by_cases hlt : j < n
    · obtain ⟨p1, p2⟩ := cells_gv hA
      have hs := pwN_sm j (by omega)
      unfold sm at hs
      have q1 : IntKind.i64.wrap ((pwN j).1 + (pwN j).2) = (pwN j).1 + (pwN j).2 := IntWalk.i64_in _ (by omega)
      clear hs
      go_wp2_with (first
        | (refine wpList_store_row rfl 24 _ _ rfl (w.heap.size + 1) (gv (pwN (j + 1))) rfl rfl 24 (gv (pwN j)) hA (sizeV _) rfl (oneV _) ?_
           have hA2 := hA.row (gv (pwN (j + 1)))
           have hB2 := hB.rowfar (by omega) (gv (pwN (j + 1))) (g' := w.heap.size + 1)
           have hK2 := below_row hK (g := w.heap.size + 1) (by omega) (gv (pwN (j + 1)))
           clear p1 p2
           generalize wr.setRow (w.heap.size + 1) (gv (pwN (j + 1))) = w2 at *
           clear hA hB hK))
      go_roundw
      case rel => exact ⟨j + 1, by omega, by go_num, hA2, hB2, hK2⟩
      case measure => simp [intOf]; omega
    · obtain rfl : n = j := by omega
      go_wp2_with fail
      go_loopw [5] (fun i w2 => i = .int .i64 0 ∧ At w2 (w.heap.size + 1) 24 (gv (pwN n)) ∧ At w2 w.heap.size 24 (gv (0, 0)) ∧ Keeps w w2) (fun i _ => 1)
      case atStart => exact ⟨rfl, hA, hB, hK⟩
      case round =>
        obtain ⟨rfl, hA, hB, hK⟩ := hrel
        go_wp2_with (first
          | (refine wpList_load_row rfl 24 _ rfl (w.heap.size + 1) rfl 24 _ _ _ hA Tryd.underlying24 rfl (sizeV _) ?_)
          | (refine wpList_store_row rfl 24 _ _ rfl w.heap.size (gv (pwN n)) rfl rfl 24 (gv (0, 0)) hB (sizeV _) rfl (oneV _) ?_))
        refine bodyPost_ret (results_cell_row Tryd.results29 _ _ w.heap.size _ _ _ _ rfl (hB.row _) Tryd.underlying24 rfl (sizeV _)) rfl ⟨rfl, below_row hK (by omega) _⟩
set_option maxHeartbeats 2000000 in
theorem refPower_no (n : Nat) (hn0 : 0 < n) (hn : n ≤ 40) (w : World) :
    Calls Tryd.prog 29 #[.int .i64 (-(n : Int))] w fun e w' => e = .returned (.agg (gv (pwM n))) ∧ Keeps w w' := by
  have hX0 := At.new2 w (.cells #[.int .i64 0, .int .i64 0] 24) 24 (gv (0, 0))
  have hR0 := (At.new w 24 (gv (0, 0))).alloc (.cells (gv (0, 0)) 24)
  have hk0 : Keeps w ((w.alloc (.cells (gv (0, 0)) 24)).alloc (.cells (gv (0, 0)) 24)) := Keeps.alloc (Keeps.alloc (Below.refl _ _) _) _
  have hz : decide (0 < -(n : Int)) = false := by simp
  go_enter Tryd.func29, Tryd.ntmps29
  go_wp2_with (refine wpList_store_row rfl 24 _ _ rfl (w.heap.size + 1) (gv (1, 0)) rfl rfl 24 (gv (0, 0)) hX0 (sizeV _) rfl (oneV _) ?_)
  have hX := hX0.row (gv (1, 0))
  have hR := hR0.rowfar (by omega) (gv (1, 0)) (g' := w.heap.size + 1)
  have hk := below_row hk0 (g := w.heap.size + 1) (by omega) (gv (1, 0))
  rw [← gv_zero] at hX hR hk
  generalize ((w.alloc (.cells #[.int .i64 0, .int .i64 0] 24)).alloc (.cells #[.int .i64 0, .int .i64 0] 24)).setRow (w.heap.size + 1) (gv (1, 0)) = X at *
  go_loopw [4] (fun i w2 => i = .int .i64 0 ∧ At w2 (w.heap.size + 1) 24 (gv (1, 0)) ∧ At w2 w.heap.size 24 (gv (0, 0)) ∧ Keeps w w2) (fun i _ => 1)
  case atStart => exact ⟨rfl, hX, hR, hk⟩
  case round =>
    obtain ⟨rfl, hA, hB, hK⟩ := hrel
    clear hX hR hk hX0 hR0 hk0 X
    go_wp2_with fail
    go_loopw [5] (fun i wr => ∃ j : Nat, j ≤ n ∧ i = .int .i64 (-(j : Int)) ∧ At wr (w.heap.size + 1) 24 (gv (pwM j)) ∧ At wr w.heap.size 24 (gv (0, 0)) ∧ Keeps w wr) (fun i _ => n - (-(intOf i)).toNat)
    case atStart => exact ⟨0, by omega, rfl, hA, hB, hK⟩
    case round =>
      obtain ⟨j, hj, rfl, hA, hB, hK⟩ := hrel
      by_cases hlt : j < n
      · obtain ⟨p1, p2⟩ := cells_gv hA
        have hs := pwM_sm j (by omega)
        unfold sm at hs
        have q1 : IntKind.i64.wrap ((pwM j).2 - (pwM j).1) = (pwM j).2 - (pwM j).1 := IntWalk.i64_in _ (by omega)
        have q2 : IntKind.i64.wrap (-(j : Int) - 1) = -(j : Int) - 1 := IntWalk.i64_in _ (by omega)
        have t1 : decide (-(n : Int) < -(j : Int)) = true := by simp; omega
        have t2 : decide ((j : Int) < (n : Int)) = true := by simp; omega
        clear hs
        go_wp2_with (first
          | (refine wpList_store_row rfl 24 _ _ rfl (w.heap.size + 1) (gv (pwM (j + 1))) rfl rfl 24 (gv (pwM j)) hA (sizeV _) rfl (oneV _) ?_
             have hA2 := hA.row (gv (pwM (j + 1)))
             have hB2 := hB.rowfar (by omega) (gv (pwM (j + 1))) (g' := w.heap.size + 1)
             have hK2 := below_row hK (g := w.heap.size + 1) (by omega) (gv (pwM (j + 1)))
             clear p1 p2
             generalize wr.setRow (w.heap.size + 1) (gv (pwM (j + 1))) = w2 at *
             clear hA hB hK))
        go_roundw
        case rel => exact ⟨j + 1, by omega, by congr 1; omega, hA2, hB2, hK2⟩
        case measure => simp [intOf]; omega
      · obtain rfl : n = j := by omega
        go_wp2_with (first
          | (refine wpList_load_row rfl 24 _ rfl (w.heap.size + 1) rfl 24 _ _ _ hA Tryd.underlying24 rfl (sizeV _) ?_)
          | (refine wpList_store_row rfl 24 _ _ rfl w.heap.size (gv (pwM n)) rfl rfl 24 (gv (0, 0)) hB (sizeV _) rfl (oneV _) ?_))
        refine bodyPost_ret (results_cell_row Tryd.results29 _ _ w.heap.size _ _ _ _ rfl (hB.row _) Tryd.underlying24 rfl (sizeV _)) rfl ⟨rfl, below_row hK (by omega) _⟩
theorem refPower_c (k : Int) (h : -40 ≤ k) (h' : k ≤ 40) (w : World) : Calls Tryd.prog 29 #[.int .i64 k] w fun e w' => e = .returned (.agg (gv (pw k))) ∧ Keeps w w' := by
  unfold pw
  split
  · have := refPower_yes k.toNat (by omega) w
    rwa [Int.toNat_of_nonneg (by omega)] at this
  · have := refPower_no (-k).toNat (by omega) (by omega) w
    rwa [Int.toNat_of_nonneg (by omega), Int.neg_neg] at this
end Go.Proofs.YtfekggmdhmkemaaDoor
