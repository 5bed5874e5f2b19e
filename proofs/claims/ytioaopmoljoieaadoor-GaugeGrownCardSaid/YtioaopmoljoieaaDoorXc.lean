/- The walks of the program's Rung and of the reference's Gaps. -/
import Derived.Test.YtioaopmoljoieaaDoorXb
namespace Go.Proofs.YtioaopmoljoieaaDoor
open Go.RowKit
set_option linter.unusedVariables false
set_option linter.unusedSimpArgs false

set_option maxHeartbeats 1000000 in
theorem Rung_no (k : Int) (h : k < 0 ∨ 100000 < k) (w : World) :
    Calls Tryd.prog 7 #[.int .i64 k] w fun e w' => e = .returned (.tuple #[.agg (gv (0, 0)), .int .i64 2]) ∧ Keeps w w' := by
  have r0 : At (w.alloc (.cells (gv (0, 0)) 23)) w.heap.size 23 (gv (0, 0)) := At.new w _ _
  have k0 : Keeps w (w.alloc (.cells (gv (0, 0)) 23)) := Keeps.alloc (Below.refl _ _) _
  by_cases h1 : k < 0
  · have d1 : decide (k < 0) = true := by simpa using h1
    clear h h1
    go_enter Tryd.func7, Tryd.ntmps7
    go_wp2_with (refine wpList_store_row rfl 23 _ _ rfl _ (gv (0, 0)) rfl rfl 23 (gv (0, 0)) r0 (sizeV _) rfl (oneV _) ?_)
    exact bodyPost_ret (results_row_tmp Tryd.results7 _ _ w.heap.size _ _ _ rfl (r0.row _) Tryd.underlying23 rfl (sizeV _)) rfl ⟨rfl, below_row k0 (by omega) _⟩
  · have d1 : decide (k < 0) = false := by simpa using h1
    have d2 : decide (100000 < k) = true := by simp; omega
    clear h h1
    go_enter Tryd.func7, Tryd.ntmps7
    go_wp2_with (refine wpList_store_row rfl 23 _ _ rfl _ (gv (0, 0)) rfl rfl 23 (gv (0, 0)) r0 (sizeV _) rfl (oneV _) ?_)
    exact bodyPost_ret (results_row_tmp Tryd.results7 _ _ w.heap.size _ _ _ rfl (r0.row _) Tryd.underlying23 rfl (sizeV _)) rfl ⟨rfl, below_row k0 (by omega) _⟩
set_option maxHeartbeats 1000000 in
theorem Rung_yes (k : Int) (h0 : 0 ≤ k) (h1 : k ≤ 100000) (w : World) :
    Calls Tryd.prog 7 #[.int .i64 k] w fun e w' => e = .returned (.tuple #[.agg (gv (rungG k)), .int .i64 0]) ∧ Keeps w w' := by
  have r0 : At (w.alloc (.cells (gv (0, 0)) 23)) w.heap.size 23 (gv (0, 0)) := At.new w _ _
  have k0 : Keeps w (w.alloc (.cells (gv (0, 0)) 23)) := Keeps.alloc (Below.refl _ _) _
  have rc := fun z => rung_c k h0 (by omega) z
  have d1 : decide (k < 0) = false := by simpa using h0
  have d2 : decide (100000 < k) = false := by simpa using h1
  clear h0 h1
  generalize rungG k = v at *
  go_enter Tryd.func7, Tryd.ntmps7
  go_wp2_with (first
    | (go_at_call 21; refine (rc _).mono ?_; rintro e w1 ⟨rfl, b1⟩; have r1 := r0.later b1; have k1 := Keeps.next k0 b1)
    | (refine wpList_store_row rfl 23 _ _ rfl _ (gv v) rfl rfl 23 (gv (0, 0)) r1 (sizeV _) rfl (oneV _) ?_))
  exact bodyPost_ret (results_row_tmp Tryd.results7 _ _ w.heap.size _ _ _ rfl (r1.row _) Tryd.underlying23 rfl (sizeV _)) rfl ⟨rfl, below_row k1 (by omega) _⟩
theorem rungG_sm9 (k : Int) (h : 0 ≤ k) : sm2 100000000000 (rungG k) := by
  have := rgJ_in k h 40 (by omega)
  unfold sm2 rungG
  unfold sm at *
  omega
theorem str_snoc (l : List UInt8) (c : UInt8) : (⟨l.toArray⟩ : ByteArray) ++ (⟨#[c]⟩ : ByteArray) = ⟨(l ++ [c]).toArray⟩ := by
  apply ByteArray.ext
  rw [ByteArray.data_append]
  simp
set_option maxHeartbeats 4000000 in
set_option maxRecDepth 100000 in
theorem refGaps_c (n : Nat) (h : n ≤ 1000) (w : World) :
    Calls Tryd.prog 11 #[.int .i64 n] w fun e w' => e = .returned (.string ⟨(gapsL n).toArray⟩) ∧ Keeps w w' := by
  go_enter Tryd.func11, Tryd.ntmps11
  go_wp2_with fail
  go_loopw [3, 4] (fun s k wr => ∃ j : Nat, j ≤ n ∧ k = .int .i64 j ∧ s = .string ⟨(gapsL j).toArray⟩ ∧ Keeps w wr) (fun _ k _ => n - (intOf k).toNat)
  case atStart => exact ⟨0, Nat.zero_le _, rfl, rfl, Below.refl _ _⟩
  case round =>
    obtain ⟨j, hj, rfl, rfl, hb⟩ := hrel
    generalize wr = w0 at *
    by_cases hlt : j < n
    · have r1 := fun z => refRung_c ((j : Int) + 1) (by omega) (by omega) z
      have r2 := fun z => refRung_c (j : Int) (by omega) (by omega) z
      have s1 := rungG_sm9 ((j : Int) + 1) (by omega)
      have s2 := rungG_sm9 (j : Int) (by omega)
      have hg : gapB (j : Int) = (decide ((rungG ((j : Int) + 1)).1 - (rungG (j : Int)).1 = 1) && decide ((rungG ((j : Int) + 1)).2 - (rungG (j : Int)).2 = 0)) := by
        unfold gapB; rw [Int.add_comm 1]
      generalize rungG ((j : Int) + 1) = x at *
      generalize rungG (j : Int) = y at *
      have m1 : ∀ z, Calls Tryd.prog 17 #[.agg (gv x), .agg (gv y)] z fun e w' => e = .returned (.agg #[.int .i64 (minusG x y).1, .int .i64 (minusG x y).2]) ∧ Keeps z w' := fun z => refMinus_v x y (sm2_mono s1 (by decide)) (sm2_mono s2 (by decide)) z
      have e1 : (minusG x y).1 = x.1 - y.1 := rfl
      have e2 : (minusG x y).2 = x.2 - y.2 := rfl
      rw [← e1, ← e2] at hg
      generalize minusG x y = d at *
      have q1 : IntKind.i64.wrap ((j : Int) + 1) = (j : Int) + 1 := IntWalk.i64_in _ (by omega)
      have hjI : decide ((j : Int) < (n : Int)) = true := by simp; omega
      have hb1 : ∃ b1 b2 : Bool, (d.1 == 1) = b1 ∧ (d.2 == 0) = b2 ∧ gapL (j : Int) = if b1 && b2 then 76 else 83 := ⟨_, _, rfl, rfl, by
        unfold gapL; rw [hg]; rfl⟩
      obtain ⟨b1, b2, h1, h2, h3⟩ := hb1
      have hst : ∀ W, (Op.stringOp .add ⟨(gapsL j).toArray⟩ ⟨#[gapL j]⟩).run Tryd.prog W = .ok (.string ⟨(gapsL (j + 1)).toArray⟩) W := fun W => by
        have := run_string_add_sum (P := Tryd.prog) (w := W) ⟨(gapsL j).toArray⟩ ⟨#[gapL j]⟩ (by
          have : (⟨(gapsL j).toArray⟩ : ByteArray).size = j := by show (gapsL j).toArray.size = j; simp [gapsL_length]
          rw [this]
          show j + 1 ≤ _
          omega)
        rw [str_snoc, ← gapsL_succ] at this
        exact this
      have Hj := Lib.hid hlt
      clear s1 s2 hg e1 e2 hlt hj
      cases b1 <;> cases b2
      all_goals
        simp only [Bool.and_self, Bool.and_false, Bool.false_and, Bool.true_and, Bool.and_true, Bool.false_eq_true, if_true, if_false] at h3
        rw [h3] at hst
        go_wp2_with (first
          | (go_at_call 9; (with_reducible refine (r1 _).mono ?_); rintro e w1 ⟨rfl, b1⟩; have k1 := Keeps.next hb b1; clear r1)
          | (go_at_call 9; (with_reducible refine (r2 _).mono ?_); rintro e w2 ⟨rfl, b2⟩; have k2 := Keeps.next k1 b2; clear r2)
          | (go_at_call 17; refine (m1 _).mono ?_; rintro e w3 ⟨rfl, b3⟩; have k3 := Keeps.next k2 b3; clear m1))
        go_roundw
        case rel => exact ⟨j + 1, by have := Hj.out; omega, by go_num, rfl, k3⟩
        case measure => have := Hj.out; simp [intOf]; omega
    · obtain rfl : j = n := by omega
      have hjI : decide ((j : Int) < (j : Int)) = false := by simp
      go_wp2_with fail
      go_ret
      exact ⟨rfl, hb⟩
end Go.Proofs.YtioaopmoljoieaaDoor
