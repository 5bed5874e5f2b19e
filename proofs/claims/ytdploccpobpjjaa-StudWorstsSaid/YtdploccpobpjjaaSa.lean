/- The plain words of orders, steps; the walk of stepOf. -/
import Derived.Test.YtdploccpobpjjaaCa
import Derived.Test.YtdploccpobpjjaaRows
import Derived.WalkKit
import Derived.WalkSpells
import Derived.WalkLawsBesides
import Derived.Deep.QuietTactic
import Derived.BigQuiet
import Derived.Lib.Hide
import Derived.StillTailTactics
import Derived.IntWalk
import Derived.Outline
namespace Go.Proofs.Ytdploccpobpjjaa
open Go.RowKit
set_option linter.unusedVariables false

/-- Rows are small numbers. -/
def low (l : List Int) : Prop := ∀ k, 0 ≤ nth l k ∧ nth l k < 1000
/-- The step from one column to another one. -/
def stp1 (l : List Int) (i j : Nat) : Int := (j : Int) - i
def stp2 (l : List Int) (i j : Nat) : Int := nth l j - nth l i
theorem sizeSt (a b : Int) : (Try.prog.info? 52).map (·.size) = some (ic [a, b]).size := by
  show _ = some 2; kernel_rfl

set_option maxHeartbeats 2000000 in
theorem stepOf_c (v : Value) (l : List Int) (hl : low l) (i j : Nat) (hi : i < l.length) (hj : j < l.length) (w : World) (hv : RdI w v l) :
    Calls Try.prog 34 #[v, .agg #[.int .i64 i, .int .i64 j]] w fun e w' => e = .returned (.agg #[.int .i64 (stp1 l i j), .int .i64 (stp2 l i j)]) ∧ Keeps w w' := by
  obtain ⟨A, c, rfl, hm, hcs⟩ := id hv
  unfold maxLen at hm
  obtain ⟨b0, o0, u0, rfl, c0, rfl⟩ := hcs i hi
  obtain ⟨b1, o1, u1, hA, c1, rfl⟩ := hcs j hj
  cases hA
  obtain ⟨r0, r1⟩ := hl i
  obtain ⟨r2, r3⟩ := hl j
  have l0 := block_lt_of_cell c0
  go_enter Try.func34, Try.ntmps34
  go_wp2_with fail
  have q1 : IntKind.i64.wrap ((j : Int) - i) = (j : Int) - i := IntWalk.i64_in _ (by omega)
  have q2 : IntKind.i64.wrap (nth l j - nth l i) = nth l j - nth l i := IntWalk.i64_in _ (by omega)
  have hb : Keeps w ((w.alloc (.cells #[.int .i64 i, .int .i64 j] 50)).alloc (.cells #[.int .i64 0, .int .i64 0] 52)) := Keeps.alloc (Keeps.alloc (Below.refl _ _) _) _
  have h1 : At ((w.alloc (.cells #[.int .i64 i, .int .i64 j] 50)).alloc (.cells #[.int .i64 0, .int .i64 0] 52)) w.heap.size 50 #[.int .i64 i, .int .i64 j] := (At.new w _ _).alloc _
  have h2 : At ((w.alloc (.cells #[.int .i64 i, .int .i64 j] 50)).alloc (.cells #[.int .i64 0, .int .i64 0] 52)) (w.heap.size + 1) 52 (ic [0, 0]) := At.new2 w _ _ _
  have c0 := cell_keep c0 hb
  have c1 := cell_keep c1 hb
  generalize (w.alloc (.cells #[.int .i64 i, .int .i64 j] 50)).alloc (.cells #[.int .i64 0, .int .i64 0] 52) = X at *
  have d0 := h1.cell 0
  have d1 := h1.cell 1
  simp only [List.getElem?_toArray, List.getElem?_cons_zero, List.getElem?_cons_succ] at d0 d1
  go_still_tail 17, (by kernel_rfl)
  change wpList _ _ _ _ _ X.drew
  have h2' := At.drew h2
  refine wpList_store_row rfl 52 _ _ rfl (w.heap.size + 1) (ic [stp1 l i j, stp2 l i j]) rfl rfl 52 (ic [0, 0]) h2' (sizeSt _ _) rfl (ic_one _) ?_
  have h3 := h2'.row (ic [stp1 l i j, stp2 l i j])
  have hb3 := below_row (g := w.heap.size + 1) (below_drewN (n := 1) hb) (by omega) (ic [stp1 l i j, stp2 l i j])
  change wpList _ _ _ _ _ (X.drew.setRow (w.heap.size + 1) (ic [stp1 l i j, stp2 l i j]))
  change Keeps w (X.drew.setRow (w.heap.size + 1) (ic [stp1 l i j, stp2 l i j])) at hb3
  generalize X.drew.setRow (w.heap.size + 1) (ic [stp1 l i j, stp2 l i j]) = Y at *
  clear q1 q2
  go_wp2_with fail
  refine bodyPost_ret (results_cell_row Try.results34 _ _ (w.heap.size + 1) _ _ _ _ rfl h3 Try.underlying52 rfl (sizeSt _ _)) rfl ⟨rfl, hb3⟩
end Go.Proofs.Ytdploccpobpjjaa
