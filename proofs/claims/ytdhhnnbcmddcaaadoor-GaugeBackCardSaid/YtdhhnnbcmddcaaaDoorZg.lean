/- The walk of positive. -/
import Derived.Test.YtdhhnnbcmddcaaaDoorZa
import Derived.Test.YtdhhnnbcmddcaaaDoorVd
namespace Go.Proofs.YtdhhnnbcmddcaaaDoor
open Go.RowKit
set_option linter.unusedVariables false
set_option linter.unusedSimpArgs false

def posG (m : Int) (x : Int × Int) : Int × Int := let t := tameG m x; if sgn t.1 t.2 < 0 then (-t.1, -t.2) else t
theorem posG_in (m : Int) (h : 0 ≤ m) (x : Int × Int) : sm2 m (posG m x) ∧ nn (posG m x) := by
  have hs := tame_sm m h x
  unfold posG
  simp only
  split
  · rename_i hn
    refine ⟨by unfold sm2 sm at *; simp only; omega, ?_⟩
    unfold nn
    simp only
    rw [sgn_neg]
    omega
  · rename_i hn
    exact ⟨hs, by unfold nn; omega⟩
set_option maxHeartbeats 4000000 in
set_option maxRecDepth 100000 in
theorem positive_neg (x : Int × Int) (m : Int) (h0 : 1 ≤ m) (h1 : m ≤ 1000000) (hn : sgn (tameG m x).1 (tameG m x).2 < 0) (w : World) :
    Calls Tryd.prog 18 #[.agg (gv x), .int .i64 m] w fun e w' => e = .returned (.agg (gv (posG m x))) ∧ Keeps w w' := by
  have c1 := fun z => tame_c x m h0 h1 z
  have hs := tame_sm m (by omega) x
  have c2 := fun z => refSign_v (tameG m x) (sm2_mono hs (by omega)) z
  have hp : posG m x = (-(tameG m x).1, -(tameG m x).2) := by unfold posG; simp only; rw [if_pos hn]
  rw [hp]
  have d1 : decide (sgn (tameG m x).1 (tameG m x).2 < 0) = true := by simpa using hn
  clear hp hn
  generalize tameG m x = t at *
  unfold sm2 sm at hs
  have q1 : IntKind.i64.wrap (-t.1) = -t.1 := IntWalk.i64_in _ (by omega)
  have q2 : IntKind.i64.wrap (-t.2) = -t.2 := IntWalk.i64_in _ (by omega)
  clear hs h0 h1
  generalize sgn t.1 t.2 = sg at *
  obtain ⟨W, hW⟩ : ∃ W, (w.alloc (.cells #[.int .i64 x.1, .int .i64 x.2] 23)).alloc (.cells #[.int .i64 0, .int .i64 0] 23) = W := ⟨_, rfl⟩
  have a0 : At W w.heap.size 23 (gv x) := by rw [← hW]; exact (At.new w _ _).alloc _
  have r0 : At W (w.heap.size + 1) 23 (gv (0, 0)) := by rw [← hW]; exact At.new2 w _ _ _
  have k0 : Keeps w W := by rw [← hW]; exact Keeps.alloc (Keeps.alloc (Below.refl _ _) _) _
  have HW := Lib.hid hW
  clear hW
  change Calls Tryd.prog 18 #[.agg #[.int .i64 x.1, .int .i64 x.2], .int .i64 m] w _
  go_enter Tryd.func18, Tryd.ntmps18
  go_upto_region 1 with fail
  rw [HW.out]
  clear HW
  go_wp2_with (first
    | (refine load_row_w rfl 23 _ rfl _ rfl 23 _ _ _ a0 Tryd.underlying23 rfl (sizeV _) ?_)
    | (refine load_row_w rfl 23 _ rfl _ rfl 23 _ _ _ a3 Tryd.underlying23 rfl (sizeV _) ?_)
    | (refine load_row_w rfl 23 _ rfl _ rfl 23 _ _ _ a4 Tryd.underlying23 rfl (sizeV _) ?_)
    | (go_at_call 35
       (with_reducible refine (c1 _).mono ?_)
       rintro e w1 ⟨rfl, b1⟩
       have a1 := a0.later b1
       have r1 := r0.later b1
       have k1 := Keeps.next k0 b1
       have a3 := a1.row (gv t)
       have r3 := r1.rowfar (by omega) (gv t) (g' := w.heap.size)
       have k3 := below_row k1 (Nat.le_refl _) (gv t)
       clear c1 k0 a0 r0)
    | (refine wpList_store_row rfl 23 _ _ rfl w.heap.size (gv t) rfl rfl 23 (gv x) a1 (sizeV _) rfl (oneV _) ?_)
    | (go_at_call 10
       (with_reducible refine (c2 _).mono ?_)
       rintro e w4 ⟨rfl, b4⟩
       have a4 := a3.later b4
       have r4 := r3.later b4
       have k4 := Keeps.next k3 b4
       obtain ⟨p1, p2, p3, p4⟩ := row_four a4
       clear c2 k3 a3 r3)
    | (refine wpList_store_row rfl 23 _ _ rfl (w.heap.size + 1) #[.int .i64 (-t.1), .int .i64 (-t.2)] rfl rfl 23 (gv (0, 0)) r4 (sizeG _ _) rfl (oneG _ _) ?_))
  exact bodyPost_ret (results_cell_row Tryd.results18 _ _ (w.heap.size + 1) _ _ _ _ rfl (r4.row (gv (-t.1, -t.2))) Tryd.underlying23 rfl (sizeV _)) rfl ⟨rfl, below_row k4 (by omega) _⟩
set_option maxHeartbeats 4000000 in
set_option maxRecDepth 100000 in
theorem positive_pos (x : Int × Int) (m : Int) (h0 : 1 ≤ m) (h1 : m ≤ 1000000) (hn : ¬ sgn (tameG m x).1 (tameG m x).2 < 0) (w : World) :
    Calls Tryd.prog 18 #[.agg (gv x), .int .i64 m] w fun e w' => e = .returned (.agg (gv (posG m x))) ∧ Keeps w w' := by
  have c1 := fun z => tame_c x m h0 h1 z
  have hs := tame_sm m (by omega) x
  have c2 := fun z => refSign_v (tameG m x) (sm2_mono hs (by omega)) z
  have hp : posG m x = tameG m x := by unfold posG; simp only; rw [if_neg hn]
  rw [hp]
  have d1 : decide (sgn (tameG m x).1 (tameG m x).2 < 0) = false := by simpa using hn
  clear hp hn
  generalize tameG m x = t at *
  unfold sm2 sm at hs
  have q1 : IntKind.i64.wrap (-t.1) = -t.1 := IntWalk.i64_in _ (by omega)
  have q2 : IntKind.i64.wrap (-t.2) = -t.2 := IntWalk.i64_in _ (by omega)
  clear hs h0 h1
  generalize sgn t.1 t.2 = sg at *
  obtain ⟨W, hW⟩ : ∃ W, (w.alloc (.cells #[.int .i64 x.1, .int .i64 x.2] 23)).alloc (.cells #[.int .i64 0, .int .i64 0] 23) = W := ⟨_, rfl⟩
  have a0 : At W w.heap.size 23 (gv x) := by rw [← hW]; exact (At.new w _ _).alloc _
  have r0 : At W (w.heap.size + 1) 23 (gv (0, 0)) := by rw [← hW]; exact At.new2 w _ _ _
  have k0 : Keeps w W := by rw [← hW]; exact Keeps.alloc (Keeps.alloc (Below.refl _ _) _) _
  have HW := Lib.hid hW
  clear hW
  change Calls Tryd.prog 18 #[.agg #[.int .i64 x.1, .int .i64 x.2], .int .i64 m] w _
  go_enter Tryd.func18, Tryd.ntmps18
  go_upto_region 1 with fail
  rw [HW.out]
  clear HW
  go_wp2_with (first
    | (refine load_row_w rfl 23 _ rfl _ rfl 23 _ _ _ a0 Tryd.underlying23 rfl (sizeV _) ?_)
    | (refine load_row_w rfl 23 _ rfl _ rfl 23 _ _ _ a3 Tryd.underlying23 rfl (sizeV _) ?_)
    | (refine load_row_w rfl 23 _ rfl _ rfl 23 _ _ _ a4 Tryd.underlying23 rfl (sizeV _) ?_)
    | (go_at_call 35
       (with_reducible refine (c1 _).mono ?_)
       rintro e w1 ⟨rfl, b1⟩
       have a1 := a0.later b1
       have r1 := r0.later b1
       have k1 := Keeps.next k0 b1
       have a3 := a1.row (gv t)
       have r3 := r1.rowfar (by omega) (gv t) (g' := w.heap.size)
       have k3 := below_row k1 (Nat.le_refl _) (gv t)
       clear c1 k0 a0 r0)
    | (refine wpList_store_row rfl 23 _ _ rfl w.heap.size (gv t) rfl rfl 23 (gv x) a1 (sizeV _) rfl (oneV _) ?_)
    | (go_at_call 10
       (with_reducible refine (c2 _).mono ?_)
       rintro e w4 ⟨rfl, b4⟩
       have a4 := a3.later b4
       have r4 := r3.later b4
       have k4 := Keeps.next k3 b4
       clear c2 k3 a3 r3)
    | (refine wpList_store_row rfl 23 _ _ rfl (w.heap.size + 1) (gv t) rfl rfl 23 (gv (0, 0)) r4 (sizeV _) rfl (oneV _) ?_))
  exact bodyPost_ret (results_cell_row Tryd.results18 _ _ (w.heap.size + 1) _ _ _ _ rfl (r4.row (gv t)) Tryd.underlying23 rfl (sizeV _)) rfl ⟨rfl, below_row k4 (by omega) _⟩
theorem positive_c (x : Int × Int) (m : Int) (h0 : 1 ≤ m) (h1 : m ≤ 1000000) (w : World) :
    Calls Tryd.prog 18 #[.agg (gv x), .int .i64 m] w fun e w' => e = .returned (.agg (gv (posG m x))) ∧ Keeps w w' := by
  by_cases hn : sgn (tameG m x).1 (tameG m x).2 < 0
  · exact positive_neg x m h0 h1 hn w
  · exact positive_pos x m h0 h1 hn w
end Go.Proofs.YtdhhnnbcmddcaaaDoor
