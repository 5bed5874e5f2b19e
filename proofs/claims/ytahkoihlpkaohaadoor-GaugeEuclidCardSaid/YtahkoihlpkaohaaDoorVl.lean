/- The law GaugeDivides. -/
import Derived.Test.YtahkoihlpkaohaaDoorVj
import Derived.Test.YtahkoihlpkaohaaDoorVk
namespace Go.Proofs.YtahkoihlpkaohaaDoor
open Go.RowKit
set_option linter.unusedVariables false
set_option linter.unusedSimpArgs false

set_option maxHeartbeats 4000000 in
set_option maxRecDepth 100000 in
theorem divides_x (x y : Int × Int) (hx : numB x.1 x.2 = false) (w : World) : Calls Tryd.prog 3 #[.agg (gv x), .agg (gv y)] w fun e w' => e = .returned (.bool true) ∧ Keeps w w' := by
  have x0 : At ((w.alloc (.cells (gv x) 23)).alloc (.cells (gv y) 23)) w.heap.size 23 (gv x) := (At.new w _ _).alloc _
  have y0 : At ((w.alloc (.cells (gv x) 23)).alloc (.cells (gv y) 23)) (w.heap.size + 1) 23 (gv y) := At.new2 w _ _ _
  have k0 : Keeps w ((w.alloc (.cells (gv x) 23)).alloc (.cells (gv y) 23)) := Keeps.alloc (Keeps.alloc (Below.refl _ _) _) _
  have aw := fun z => awake_c z
  have c1 := fun z => divide_x x y hx z
  have i1 := fun z => refNumber_v x z
  rw [hx] at i1
  clear hx
  change Calls Tryd.prog 3 #[.agg #[.int .i64 x.1, .int .i64 x.2], .agg #[.int .i64 y.1, .int .i64 y.2]] w _
  go_enter Tryd.func3, Tryd.ntmps3
  go_wp2_with (first
    | (refine load_row_w rfl 23 _ rfl _ rfl 23 #[.int .i64 0, .int .i64 0] _ _ gz Tryd.underlying23 rfl (sizeG _ _) ?_)
    | (refine load_row_w rfl 23 _ rfl _ rfl 23 #[.int .i64 0, .int .i64 0] _ _ sz Tryd.underlying23 rfl (sizeG _ _) ?_)
    | (refine load_row_w rfl 23 _ rfl _ rfl 23 _ _ _ x1 Tryd.underlying23 rfl (sizeV _) ?_)
    | (refine load_row_w rfl 23 _ rfl _ rfl 23 _ _ _ x0 Tryd.underlying23 rfl (sizeV _) ?_)
    | (refine load_row_w rfl 23 _ rfl _ rfl 23 _ _ _ y0 Tryd.underlying23 rfl (sizeV _) ?_)
    | (go_at_call 9
       refine (c1 _).mono ?_
       rintro e w1 ⟨rfl, b1⟩
       have g0 : At ((w1.alloc (.cells (gv (0, 0)) 23)).alloc (.cells (gv (0, 0)) 23)) w1.heap.size 23 (gv (0, 0)) := (At.new w1 _ _).alloc _
       have s0 : At ((w1.alloc (.cells (gv (0, 0)) 23)).alloc (.cells (gv (0, 0)) 23)) (w1.heap.size + 1) 23 (gv (0, 0)) := At.new2 w1 _ _ _
       have s1 := s0.rowfar (by omega) (gv (0, 0)) (g' := w1.heap.size)
       have g2 := (g0.row (gv (0, 0))).rowfar (by omega) (gv (0, 0)) (g' := w1.heap.size + 1)
       have s2 := s1.row (gv (0, 0))
       have dd := below_row (below_row (Keeps.alloc (Keeps.alloc b1 (.cells (gv (0, 0)) 23)) (.cells (gv (0, 0)) 23)) b1.size (gv (0, 0))) (Nat.le_succ_of_le b1.size) (gv (0, 0))
       have x1 := x0.later dd
       have y1 := y0.later dd
       have k1 := Keeps.next k0 dd
       clear c1 x0 y0)
    | (refine wpList_store_row rfl 23 _ _ rfl (w1.heap.size) (gv (0, 0)) rfl rfl 23 (gv (0, 0)) g0 (sizeV _) rfl (oneV _) ?_)
    | (refine wpList_store_row rfl 23 _ _ rfl (w1.heap.size + 1) (gv (0, 0)) rfl rfl 23 (gv (0, 0)) s1 (sizeV _) rfl (oneV _) ?_)
    | (go_at_call 10; (with_reducible refine (i1 _).mono ?_); rintro e w2 ⟨rfl, b2⟩; have x2 := x1.later b2; have y2 := y1.later b2; have gz := g2.later b2; have sz := s2.later b2; have k2 := Keeps.next k1 b2; clear i1 x1 y1 g2 s2)
    | (go_at_call 11; refine (aw _).mono ?_; rintro e w9 ⟨rfl, b9⟩))
  go_ret
  exact ⟨rfl, Keeps.next k2 b9⟩
set_option maxHeartbeats 4000000 in
set_option maxRecDepth 100000 in
theorem divides_y (x y : Int × Int) (hx : numB x.1 x.2 = true) (hy : numB y.1 y.2 = false) (w : World) : Calls Tryd.prog 3 #[.agg (gv x), .agg (gv y)] w fun e w' => e = .returned (.bool true) ∧ Keeps w w' := by
  have x0 : At ((w.alloc (.cells (gv x) 23)).alloc (.cells (gv y) 23)) w.heap.size 23 (gv x) := (At.new w _ _).alloc _
  have y0 : At ((w.alloc (.cells (gv x) 23)).alloc (.cells (gv y) 23)) (w.heap.size + 1) 23 (gv y) := At.new2 w _ _ _
  have k0 : Keeps w ((w.alloc (.cells (gv x) 23)).alloc (.cells (gv y) 23)) := Keeps.alloc (Keeps.alloc (Below.refl _ _) _) _
  have aw := fun z => awake_c z
  have c1 := fun z => divide_y x y hx hy z
  have i1 := fun z => refNumber_v x z
  rw [hx] at i1
  have i2 := fun z => refNumber_v y z
  rw [hy] at i2
  clear hx hy
  change Calls Tryd.prog 3 #[.agg #[.int .i64 x.1, .int .i64 x.2], .agg #[.int .i64 y.1, .int .i64 y.2]] w _
  go_enter Tryd.func3, Tryd.ntmps3
  go_wp2_with (first
    | (refine load_row_w rfl 23 _ rfl _ rfl 23 #[.int .i64 0, .int .i64 0] _ _ gz Tryd.underlying23 rfl (sizeG _ _) ?_)
    | (refine load_row_w rfl 23 _ rfl _ rfl 23 #[.int .i64 0, .int .i64 0] _ _ sz Tryd.underlying23 rfl (sizeG _ _) ?_)
    | (refine load_row_w rfl 23 _ rfl _ rfl 23 _ _ _ x1 Tryd.underlying23 rfl (sizeV _) ?_)
    | (refine load_row_w rfl 23 _ rfl _ rfl 23 _ _ _ y2 Tryd.underlying23 rfl (sizeV _) ?_)
    | (refine load_row_w rfl 23 _ rfl _ rfl 23 _ _ _ x0 Tryd.underlying23 rfl (sizeV _) ?_)
    | (refine load_row_w rfl 23 _ rfl _ rfl 23 _ _ _ y0 Tryd.underlying23 rfl (sizeV _) ?_)
    | (go_at_call 9
       refine (c1 _).mono ?_
       rintro e w1 ⟨rfl, b1⟩
       have g0 : At ((w1.alloc (.cells (gv (0, 0)) 23)).alloc (.cells (gv (0, 0)) 23)) w1.heap.size 23 (gv (0, 0)) := (At.new w1 _ _).alloc _
       have s0 : At ((w1.alloc (.cells (gv (0, 0)) 23)).alloc (.cells (gv (0, 0)) 23)) (w1.heap.size + 1) 23 (gv (0, 0)) := At.new2 w1 _ _ _
       have s1 := s0.rowfar (by omega) (gv (0, 0)) (g' := w1.heap.size)
       have g2 := (g0.row (gv (0, 0))).rowfar (by omega) (gv (0, 0)) (g' := w1.heap.size + 1)
       have s2 := s1.row (gv (0, 0))
       have dd := below_row (below_row (Keeps.alloc (Keeps.alloc b1 (.cells (gv (0, 0)) 23)) (.cells (gv (0, 0)) 23)) b1.size (gv (0, 0))) (Nat.le_succ_of_le b1.size) (gv (0, 0))
       have x1 := x0.later dd
       have y1 := y0.later dd
       have k1 := Keeps.next k0 dd
       clear c1 x0 y0)
    | (refine wpList_store_row rfl 23 _ _ rfl (w1.heap.size) (gv (0, 0)) rfl rfl 23 (gv (0, 0)) g0 (sizeV _) rfl (oneV _) ?_)
    | (refine wpList_store_row rfl 23 _ _ rfl (w1.heap.size + 1) (gv (0, 0)) rfl rfl 23 (gv (0, 0)) s1 (sizeV _) rfl (oneV _) ?_)
    | (go_at_call 10; (with_reducible refine (i1 _).mono ?_); rintro e w2 ⟨rfl, b2⟩; have x2 := x1.later b2; have y2 := y1.later b2; have g3 := g2.later b2; have s3 := s2.later b2; have k2 := Keeps.next k1 b2; clear i1 x1 y1 g2 s2)
    | (go_at_call 10; (with_reducible refine (i2 _).mono ?_); rintro e w3 ⟨rfl, b3⟩; have x3 := x2.later b3; have y3 := y2.later b3; have gz := g3.later b3; have sz := s3.later b3; have k3 := Keeps.next k2 b3; clear i2 x2 y2 g3 s3)
    | (go_at_call 11; refine (aw _).mono ?_; rintro e w9 ⟨rfl, b9⟩))
  go_ret
  exact ⟨rfl, Keeps.next k3 b9⟩
set_option maxHeartbeats 4000000 in
set_option maxRecDepth 100000 in
theorem divides_0 (x : Int × Int) (hx : numB x.1 x.2 = true) (w : World) : Calls Tryd.prog 3 #[.agg (gv x), .agg (gv (0, 0))] w fun e w' => e = .returned (.bool true) ∧ Keeps w w' := by
  have x0 : At ((w.alloc (.cells (gv x) 23)).alloc (.cells (gv (0, 0)) 23)) w.heap.size 23 (gv x) := (At.new w _ _).alloc _
  have y0 : At ((w.alloc (.cells (gv x) 23)).alloc (.cells (gv (0, 0)) 23)) (w.heap.size + 1) 23 (gv (0, 0)) := At.new2 w _ _ _
  have k0 : Keeps w ((w.alloc (.cells (gv x) 23)).alloc (.cells (gv (0, 0)) 23)) := Keeps.alloc (Keeps.alloc (Below.refl _ _) _) _
  have aw := fun z => awake_c z
  have c1 := fun z => divide_0 x hx z
  have i1 := fun z => refNumber_v x z
  rw [hx] at i1
  have i2 : ∀ z, Calls Tryd.prog 10 #[.agg #[.int .i64 0, .int .i64 0]] z fun e w' => e = .returned (.bool true) ∧ Keeps z w' := fun z => refNumber_v (0, 0) z
  clear hx
  change Calls Tryd.prog 3 #[.agg #[.int .i64 x.1, .int .i64 x.2], .agg #[.int .i64 0, .int .i64 0]] w _
  go_enter Tryd.func3, Tryd.ntmps3
  go_wp2_with (first
    | (refine load_row_w rfl 23 _ rfl _ rfl 23 #[.int .i64 0, .int .i64 0] _ _ gz Tryd.underlying23 rfl (sizeG _ _) ?_)
    | (refine load_row_w rfl 23 _ rfl _ rfl 23 #[.int .i64 0, .int .i64 0] _ _ sz Tryd.underlying23 rfl (sizeG _ _) ?_)
    | (refine load_row_w rfl 23 _ rfl _ rfl 23 #[.int .i64 0, .int .i64 0] _ _ y3 Tryd.underlying23 rfl (sizeG _ _) ?_)
    | (refine load_row_w rfl 23 _ rfl _ rfl 23 #[.int .i64 0, .int .i64 0] _ _ y2 Tryd.underlying23 rfl (sizeG _ _) ?_)
    | (refine load_row_w rfl 23 _ rfl _ rfl 23 _ _ _ x1 Tryd.underlying23 rfl (sizeV _) ?_)
    | (refine load_row_w rfl 23 _ rfl _ rfl 23 _ _ _ x0 Tryd.underlying23 rfl (sizeV _) ?_)
    | (refine load_row_w rfl 23 _ rfl _ rfl 23 _ _ _ y0 Tryd.underlying23 rfl (sizeV _) ?_)
    | (go_at_call 9
       refine (c1 _).mono ?_
       rintro e w1 ⟨rfl, b1⟩
       have g0 : At ((w1.alloc (.cells (gv (0, 0)) 23)).alloc (.cells (gv (0, 0)) 23)) w1.heap.size 23 (gv (0, 0)) := (At.new w1 _ _).alloc _
       have s0 : At ((w1.alloc (.cells (gv (0, 0)) 23)).alloc (.cells (gv (0, 0)) 23)) (w1.heap.size + 1) 23 (gv (0, 0)) := At.new2 w1 _ _ _
       have s1 := s0.rowfar (by omega) (gv (0, 0)) (g' := w1.heap.size)
       have g2 := (g0.row (gv (0, 0))).rowfar (by omega) (gv (0, 0)) (g' := w1.heap.size + 1)
       have s2 := s1.row (gv (0, 0))
       have dd := below_row (below_row (Keeps.alloc (Keeps.alloc b1 (.cells (gv (0, 0)) 23)) (.cells (gv (0, 0)) 23)) b1.size (gv (0, 0))) (Nat.le_succ_of_le b1.size) (gv (0, 0))
       have x1 := x0.later dd
       have y1 := y0.later dd
       have k1 := Keeps.next k0 dd
       clear c1 x0 y0)
    | (refine wpList_store_row rfl 23 _ _ rfl (w1.heap.size) (gv (0, 0)) rfl rfl 23 (gv (0, 0)) g0 (sizeV _) rfl (oneV _) ?_)
    | (refine wpList_store_row rfl 23 _ _ rfl (w1.heap.size + 1) (gv (0, 0)) rfl rfl 23 (gv (0, 0)) s1 (sizeV _) rfl (oneV _) ?_)
    | (go_at_call 10; (with_reducible refine (i1 _).mono ?_); rintro e w2 ⟨rfl, b2⟩; have x2 := x1.later b2; have y2 := y1.later b2; have g3 := g2.later b2; have s3 := s2.later b2; have k2 := Keeps.next k1 b2; clear i1 x1 y1 g2 s2)
    | (go_at_call 10; (with_reducible refine (i2 _).mono ?_); rintro e w3 ⟨rfl, b3⟩; have x3 := x2.later b3; have y3 := y2.later b3; have gz := g3.later b3; have sz := s3.later b3; have k3 := Keeps.next k2 b3; clear i2 x2 y2 g3 s3)
    | (go_at_call 11; refine (aw _).mono ?_; rintro e w9 ⟨rfl, b9⟩))
  go_ret
  exact ⟨rfl, Keeps.next k3 b9⟩
end Go.Proofs.YtahkoihlpkaohaaDoor
