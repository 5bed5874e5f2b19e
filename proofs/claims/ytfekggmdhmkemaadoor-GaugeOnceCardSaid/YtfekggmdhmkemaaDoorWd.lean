/- The walk of the reference's sum; Power's finite table of facts. -/
import Derived.Test.YtfekggmdhmkemaaDoorWa
import Derived.Test.YtfekggmdhmkemaaDoorVc
namespace Go.Proofs.YtfekggmdhmkemaaDoor
open Go.RowKit
set_option linter.unusedVariables false
set_option linter.unusedSimpArgs false

set_option maxHeartbeats 1000000 in
theorem refPlus_v (x y : Int × Int) (h : sm2 1000000000000 x) (h' : sm2 1000000000000 y) (w : World) :
    Calls Tryd.prog 17 #[.agg (gv x), .agg (gv y)] w fun e w' => e = .returned (.agg #[.int .i64 (x.1 + y.1), .int .i64 (x.2 + y.2)]) ∧ Keeps w w' := by
  unfold sm2 sm at h h'
  obtain ⟨⟨a1, a2⟩, b1, b2⟩ := h
  obtain ⟨⟨c1, c2⟩, d1, d2⟩ := h'
  have q0 : IntKind.i64.wrap (x.1 + y.1) = x.1 + y.1 := IntWalk.i64_in _ (by omega)
  have q1 : IntKind.i64.wrap (x.2 + y.2) = x.2 + y.2 := IntWalk.i64_in _ (by omega)
  have hX := At.new3 w (.cells (gv x) 24) (.cells (gv y) 24) 24 #[.int .i64 0, .int .i64 0]
  have hk : Keeps w (((w.alloc (.cells (gv x) 24)).alloc (.cells (gv y) 24)).alloc (.cells #[.int .i64 0, .int .i64 0] 24)) := Keeps.alloc (Keeps.alloc (Keeps.alloc (Below.refl _ _) _) _) _
  change Calls Tryd.prog 17 #[.agg #[.int .i64 x.1, .int .i64 x.2], .agg #[.int .i64 y.1, .int .i64 y.2]] w _
  go_enter Tryd.func17, Tryd.ntmps17
  go_wp2_with (refine wpList_store_row rfl 24 _ _ rfl (w.heap.size + 1 + 1) #[.int .i64 (x.1 + y.1), .int .i64 (x.2 + y.2)] rfl rfl 24 #[.int .i64 0, .int .i64 0] hX (sizeG _ _) rfl (oneG _ _) ?_)
  have h3 := hX.row #[.int .i64 (x.1 + y.1), .int .i64 (x.2 + y.2)]
  refine bodyPost_ret (results_cell_row Tryd.results17 _ _ (w.heap.size + 1 + 1) _ _ _ _ rfl h3 Tryd.underlying24 rfl (sizeG _ _)) rfl ⟨rfl, below_row hk (by omega) _⟩
def unitB (u v : Int) : Bool :=
  let k := u - 11; let n := v - 11
  let A := pw (k - 1); let B := pw k; let C := pw (k + 1); let D := pw n; let P := pw (k + n)
  (timesG B D == P) && ((A.1 + B.1, A.2 + B.2) == C) && (normG B == if k % 2 = 0 then 1 else -1) && (sgn (B.1 - C.1) (B.2 - C.2) == -1) &&
    (numB A.1 A.2 && numB B.1 B.2 && numB C.1 C.2 && numB D.1 D.2 && numB P.1 P.2)
theorem units_all : ((List.range 23).all fun i => (List.range 23).all fun j => unitB (i : Int) (j : Int)) = true := by decide +kernel
theorem units_in (u v : Int) (h1 : 0 ≤ u) (h2 : u < 23) (h3 : 0 ≤ v) (h4 : v < 23) : unitB u v = true := by
  have h := List.all_eq_true.1 (List.all_eq_true.1 units_all u.toNat (List.mem_range.2 (by omega))) v.toNat (List.mem_range.2 (by omega))
  rw [Int.toNat_of_nonneg h1, Int.toNat_of_nonneg h3] at h
  exact h
end Go.Proofs.YtfekggmdhmkemaaDoor
